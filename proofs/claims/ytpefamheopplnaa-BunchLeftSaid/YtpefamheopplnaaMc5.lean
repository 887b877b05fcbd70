/- Own work of the verifier of watercress: EvKc, EvKd, EvKe, EvKt, EvKu, EvKf, EvX, EvS. -/
import Derived.Test.YtpefamheopplnaaMc4
import Derived.Test.YtpefamheopplnaaMc3
import Derived.Laws.Cover3
import Derived.Maps.Keyed
import Derived.Maps.RangeRun
import Derived.DeepKeys4
set_option linter.unusedVariables false
set_option linter.unusedSimpArgs false
namespace Go.Ev
section
variable {T:Ti}
theorem partK_eq {t:TypeId}{q:Option Nat}(h:partK T t=some q)(cs:List AV)(off:Nat):partA T t cs off=match q with
  | some n=>rJ n off cs
  | none=>Xk cs off:=by
 unfold partK at h
 unfold partA
 cases hi:T t with
 | none=>rw[hi] at h;cases h
 | some i =>
  rw[hi] at h
  simp only at h ⊢
  by_cases ha:aggD i.desc=true
  ·rw[if_pos ha] at h ⊢
   cases h
   simp only [rJ,Lj,Ys,bO]
   by_cases hb:off+i.size≤cs.length
   ·rw[if_pos hb,Nat.ble_eq_true_of_le hb]
   ·rw[if_neg hb]
    have:Nat.ble (off+i.size) cs.length=false:=by
     cases hq:Nat.ble (off+i.size) cs.length with
     | false=>rfl
     | true=>exact absurd (Nat.le_of_ble_eq_true hq) hb
    rw[this]
  ·rw[if_neg ha] at h ⊢
   cases h
   simp only [Pn]
theorem Wm {s:TypeId}{f:Nat}{fd:Field}(h:fieldK T s f=some fd):∃ i fs,T s=some i∧i.desc=.struct fs∧fs[f]?=some fd:=by
 unfold fieldK at h
 split at h
 ·rename_i i hi
  split at h
  ·rename_i fs hd
   exact⟨i,fs,hi,hd,h⟩
  ·cases h
 ·cases h
theorem Ec {h:Hp}{ρ:Operand→AV}{o:Oper}(h1:∀ t x lo hi mx,o.op≠.slice t x lo hi mx)(h2:∀ t ps,o.op≠.build t ps)(h3:∀ op t x y yt,o.op≠.binOp op t x y yt):evG T h ρ o=evL T h ρ o:=by
 unfold evG
 split
 ·rename_i hx;exact absurd hx (h1 _ _ _ _ _)
 ·rename_i hx;exact absurd hx (h2 _ _)
 ·rename_i hx;exact absurd hx (h3 _ _ _ _ _)
 ·rename_i hx;exact absurd hx (h3 _ _ _ _ _)
 ·rfl
theorem fill3_eq {pl:Nat→Option (Nat × Nat)}:∀ {ps:List (Nat × Operand)}{r:List (Nat × Nat × Ar)},compP pl ps=some r→∀ (f:TF)(cs:List AV),bF f r cs=fillA pl cs (ps.map fun p=>(p.1,f.av p.2))
 | [],r,h,f,cs=>by cases h;rfl
 | p::l,r,h,f,cs=>by
  simp only [compP] at h
  split at h
  ·rename_i q a r' hq ha hr
   cases h
   show(match Nat.beq (Nm (Lq (a.ev f))) q.2&&Nat.ble (q.1+q.2) (Nm cs) with
    | true=>bF f r' (Yx (Lq (a.ev f)) cs q.1)
    | false=>none)=_
   simp only [List.map_cons,fillA,hq,Lj,Rb,Sz,By ha,fill3_eq hr]
   by_cases hc:(f.av p.2).cells.length≠q.2∨q.1+(f.av p.2).cells.length>cs.length
   ·rw[if_pos hc]
    split
    ·rename_i hb
     simp only [Bool.and_eq_true] at hb
     have h1:=Nat.eq_of_beq_eq_true hb.1
     have h2:=Nat.le_of_ble_eq_true hb.2
     omega
    ·rfl
   ·rw[if_neg hc]
    have h1:(f.av p.2).cells.length=q.2:=by omega
    have h2:q.1+q.2≤cs.length:=by omega
    rw[h1,Nat.beq_refl,Nat.ble_eq_true_of_le h2]
    rfl
  ·cases h
theorem jN {t:TypeId}{i:TI}{p:Nat × Operand}{l:List (Nat × Operand)}{r:List (Nat × Nat × Ar)}(hi:T t=some i)(h:compP (Jt T i) (p::l)=some r)(f:TF) :
  buildA T t ((p::l).map fun p=>(p.1,f.av p.2))=(bF f r (i.zero.map .lit)).map .agg:=by
 rw[fill3_eq h]
 have hno:(Jt T i=fun _=>none)→False:=fun hn=>by
  rw[hn] at h
  simp[compP] at h
 unfold buildA
 simp only [hi]
 cases hd:i.desc with
 | struct fs =>
  simp only
  cases hp:placesA T fs.toList with
  | none=>exact(hno (by unfold Jt;simp only [hd,hp])).elim
  | some places =>
   have:Jt T i=fun k=>places[k]?:=by unfold Jt;simp only [hd,hp]
   rw[this]
 | array n e =>
  simp only
  cases hp:T e with
  | none=>exact(hno (by unfold Jt;simp only [hd,hp])).elim
  | some j =>
   have:Jt T i=fun k=>some (k*j.size,j.size):=by unfold Jt;simp only [hd,hp]
   rw[this]
 | _=>exact(hno (by unfold Jt;simp only [hd])).elim
theorem eU (ops:Array Oper)(h:Hp)(f:TF)(o:Oper):runK T ops h f o (compU T o.op)=evG T h f.av o:=by
 have gen:runK T ops h f o .gen=evG T h f.av o:=rfl
 obtain⟨dst,op,ty,pos,after,guard⟩:=o
 cases op with
 | move x =>
  simp only [compU]
  split
  ·rename_i a ha
   rw[Ec (by simp) (by simp) (by simp)]
   simp only [runK,evL,By ha]
  ·exact gen
 | assign x =>
  simp only [compU]
  split
  ·rename_i a ha
   rw[Ec (by simp) (by simp) (by simp)]
   simp only [runK,evL,By ha]
  ·exact gen
 | load t x =>
  simp only [compU]
  split
  ·rename_i a n ha hp
   rw[Ec (by simp) (by simp) (by simp)]
   simp only [runK,evL,By ha,pV,loadA]
   cases f.av x with
   | ptr id off =>
    simp only [Qf]
    cases cellsAt h id with
    | none=>rfl
    | some cs=>simp only;rw[partK_eq hp]
   | _=>rfl
  ·rename_i a ha hp
   rw[Ec (by simp) (by simp) (by simp)]
   simp only [runK,evL,By ha,kLd1,loadA]
   cases f.av x with
   | ptr id off =>
    simp only [Qf]
    cases cellsAt h id with
    | none=>rfl
    | some cs=>simp only;rw[partK_eq hp]
   | _=>rfl
  ·exact gen
 | fieldAddr s x fi =>
  simp only [compU]
  split
  ·rename_i a fd ha hf
   split
   ·rename_i j hj
    split
    ·exact gen
    ·rename_i hz
     obtain⟨i,fs,h1,h2,h3⟩:=Wm hf
     have hz':¬ j.size=0:=Nat.ne_of_beq_eq_false hz
     rw[Ec (by simp) (by simp) (by simp)]
     simp only [runK,evL,By ha,kFa]
     cases f.av x<;>simp[h1,h2,h3,hj,hz']
   ·exact gen
  ·exact gen
 | field s x fi =>
  simp only [compU]
  split
  ·rename_i a fd ha hf
   obtain⟨i,fs,h1,h2,h3⟩:=Wm hf
   split
   ·rename_i n hp
    rw[Ec (by simp) (by simp) (by simp)]
    simp only [runK,evL,By ha,xA]
    cases f.av x<;>simp[h1,h2,h3]
    rw[partK_eq hp]
   ·rename_i hp
    rw[Ec (by simp) (by simp) (by simp)]
    simp only [runK,evL,By ha,kFd1]
    cases f.av x<;>simp[h1,h2,h3]
    rw[partK_eq hp]
   ·exact gen
  ·exact gen
 | indexAddr t x ix =>
  simp only [compU]
  split
  ·rename_i a b i ha hb hi
   split
   ·rename_i e hd
    split
    ·rename_i j hj
     rw[Ec (by simp) (by simp) (by simp)]
     simp only [runK,evL,By ha,By hb]
     cases f.av ix with
     | lit v =>
      cases v with
      | int k n =>
       cases n with
       | ofNat n =>
        simp only [natI,kIxs]
        cases f.av x with
        | sl id off len sz ex =>
         simp only [hi,hd,hj]
         by_cases hc:n<len∧j.size=sz
         ·rw[if_pos ⟨Int.natCast_nonneg n,Int.ofNat_lt.2 hc.1,hc.2⟩,show Nat.blt n len=true from Nat.ble_eq_true_of_le hc.1,hc.2,Nat.beq_refl]
          rfl
         ·rw[if_neg (fun hq=>hc ⟨Int.ofNat_lt.1 hq.2.1,hq.2.2⟩)]
          split
          ·rename_i hq
           simp only [Bool.and_eq_true] at hq
           exact absurd ⟨Nat.le_of_ble_eq_true hq.1,Nat.eq_of_beq_eq_true hq.2⟩ hc
          ·rfl
        | _=>simp only [hi,hd]
       | negSucc n =>
        simp only [natI]
        cases f.av x with
        | sl id off len sz ex=>simp only [hi,hd,hj];rw[if_neg (fun hq=>by have:=hq.1;exact absurd this (by simp))]
        | _=>simp only [hi,hd]
      | _=>simp only [natI,hi]
     | _=>simp only [natI,hi]
    ·exact gen
   ·rename_i len e hd
    split
    ·rename_i j hj
     rw[Ec (by simp) (by simp) (by simp)]
     simp only [runK,evL,By ha,By hb]
     cases f.av ix with
     | lit v =>
      cases v with
      | int k n =>
       cases n with
       | ofNat n =>
        simp only [natI,wZ]
        cases f.av x with
        | ptr id off =>
         simp only [hi,hd,hj]
         by_cases hc:n<len
         ·rw[if_pos ⟨Int.natCast_nonneg n,Int.ofNat_lt.2 hc⟩,show Nat.blt n len=true from Nat.ble_eq_true_of_le hc]
          rfl
         ·rw[if_neg (fun hq=>hc (Int.ofNat_lt.1 hq.2))]
          split
          ·rename_i hq
           exact absurd (Nat.le_of_ble_eq_true hq) hc
          ·rfl
        | _=>simp only [hi,hd]
       | negSucc n =>
        simp only [natI]
        cases f.av x with
        | ptr id off=>simp only [hi,hd,hj];rw[if_neg (fun hq=>by have:=hq.1;exact absurd this (by simp))]
        | _=>simp only [hi,hd]
      | _=>simp only [natI,hi]
     | _=>simp only [natI,hi]
    ·exact gen
   ·exact gen
  ·exact gen
 | binOp op t x y yt =>
  simp only [compU]
  split
  ·rename_i a b ha hb
   split
   ·rename_i i hi
    split
    ·exact gen
    ·rename_i hc
     have hE:evG T h f.av ⟨dst,.binOp op t x y yt,ty,pos,after,guard⟩=binA op (f.av x) (f.av y):=by
      cases op<;>simp only [evG,evL,hi,hc,Bool.false_eq_true,if_false]
     rw[hE]
     simp only [runK,By ha,By hb,sU]
   ·exact gen
  ·exact gen
 | unOp op t x =>
  cases op with
  | not =>
   simp only [compU]
   split
   ·rename_i a ha
    rw[Ec (by simp) (by simp) (by simp)]
    simp only [runK,evL,By ha]
    cases f.av x with
    | lit v=>cases v<;>rfl
    | _=>rfl
   ·exact gen
  | _=>exact gen
 | extract x i =>
  simp only [compU]
  split
  ·rename_i a ha
   rw[Ec (by simp) (by simp) (by simp)]
   simp only [runK,evL,By ha,kEx]
   cases f.av x with
   | tup vs=>simp only [Pn]
   | _=>rfl
  ·exact gen
 | makeFunc g a b =>
  simp only [compU]
  split
  ·rename_i as bs ha hb
   rw[Ec (by simp) (by simp) (by simp)]
   simp only [runK,evL,Qc ha,Qc hb]
  ·exact gen
 | call c =>
  simp only [compU]
  split
  ·rename_i g hg
   rw[Ec (by simp) (by simp) (by simp)]
   simp only [runK,evL,hg]
  ·rename_i hg
   rw[Ec (by simp) (by simp) (by simp)]
   simp only [runK,evL,hg]
  ·rename_i hg
   split
   ·rename_i x t ha ht
    split
    ·rename_i a i hx hi
     split
     ·rename_i e hd
      rw[Ec (by simp) (by simp) (by simp)]
      simp only [runK,evL,hg,ha,ht,By hx,kLn]
      cases f.av x with
      | sl=>simp only [hi,hd];rfl
      | lit v=>cases v<;>simp only [hi,hd]<;>rfl
      | _=>simp only [hi,hd]
     ·exact gen
    ·exact gen
   ·exact gen
  ·exact gen
 | pick c x y =>
  simp only [compU]
  split
  ·rename_i c' a b hc ha hb
   rw[Ec (by simp) (by simp) (by simp)]
   simp only [runK,evL,By hc,By ha,By hb,kPk]
   cases f.av c with
   | lit v =>
    cases v with
    | bool b=>cases b<;>rfl
    | _=>rfl
   | _=>rfl
  ·exact gen
 | build t ps =>
  simp only [compU]
  split
  ·exact gen
  ·rename_i p l hps
   split
   ·rename_i i hi
    split
    ·rename_i r hr
     simp only [runK,evG,hps,jN hi hr]
     cases bF f r (i.zero.map .lit)<;>rfl
    ·exact gen
   ·exact gen
 | alloc|box|buildSlice|makeSlice|store|mapUpdate|lookup|makeMap|range|next|entry =>
  rw[Ec (by simp) (by simp) (by simp)]
  simp only [compU,runK,evL]
 | _=>exact gen
theorem Sp (ops:Array Oper)(f:TF)(o:Oper):want3 ops f o=Jf ops f o:=by
 unfold want3
 cases hg:o.guard with
 | none=>unfold Jf;rw[hg]
 | some g =>
  simp only
  split
  ·rename_i d p b hc
   unfold compG at hc
   split at hc
   ·rename_i q hq
    split at hc
    ·rename_i d' hd
     split at hc
     ·rename_i hlt
      cases hc
      have hlt : @LT.lt Nat _ d 1048575:=Nat.le_of_ble_eq_true hlt
      unfold Jf
      rw[hg]
      simp only [Region.wanted,hg,TF.y,hq,Option.bind_some,hd,pth]
      rw[Xs 20 f.t d (by omega)]
      cases Nat.blt d f.len with
      | false=>rfl
      | true =>
       simp only
       cases f.t.get d with
       | lit v =>
        cases v with
        | bool c=>cases c<;>cases g.2<;>rfl
        | _=>rfl
       | _=>rfl
     ·cases hc
    ·cases hc
   ·cases hc
  ·rfl
theorem Nd (ops:Array Oper)(h:Hp)(f:TF)(o:Oper):Om T ops h f o=lightT T ops h f o:=by
 unfold Om lightT
 rw[Sp]
 cases hg:o.guard with
 | none =>
  have:Jf ops f o=true:=by unfold Jf;rw[hg]
  rw[this]
  exact eU ops h f o
 | some g =>
  cases Jf ops f o with
  | true=>exact eU ops h f o
  | false=>rfl
end
end Go.Ev
namespace Go.Ev
inductive Kh where
 | al (cs:List AV)
 | bx (x:Ar)
 | sr (n:Nat)(p v:Ar)
 | cl (g:Ar)(as:List Ar)
 | gen
section
variable (T:Ti)
def compH (o:Op):Kh:=match o with
 | .alloc e=>match T e with
  | some i=>.al (i.zero.map .lit)
  | none=>.gen
 | .box _ x=>match compA x with
  | some a=>.bx a
  | none=>.gen
 | .store t p v=>match compA p,compA v,T t with
  | some a,some b,some i=>.sr i.size a b
  | _,_,_=>.gen
 | .call c=>match c.callee with
  | .value g=>match compA g,compL c.args.toList with
   | some a,some as=>.cl a as
   | _,_=>.gen
  | _=>.gen
 | _=>.gen
end
def pE (a:AV):Bool:=match a with
 | .lit (.int _ _)=>true
 | .lit (.bool _)=>true
 | a=>a.one
theorem pD (a:AV):pE a=a.one:=by
 cases a with
 | lit v=>cases v<;>rfl
 | _=>rfl
noncomputable def storeF (st:St)(n:Nat)(p v:AV):Option St:=match p with
 | .ptr id off=>match Bw st.h id with
  | some (.cells none false cs)=>match Nat.beq (Nm (Lq v)) n&&(Nat.ble (off+n) (Nm cs)&&Vn pE (Lq v)) with
   | true=>some ⟨Vh st.h id (.cells none false (Yx (Lq v) cs off)),st.n⟩
   | false=>none
  | _=>none
 | _=>none
theorem jR:∀ l:List AV,Vn pE l=l.all AV.one:=fun l=>by
 rw[Ib,show pE=AV.one from funext pD]
theorem gS {T:Ti}{t:TypeId}{i:TI}(h:T t=some i)(st:St)(p v:AV):storeF st i.size p v=storeA T st t p v:=by
 unfold storeF storeA
 cases p with
 | ptr id off =>
  simp only [h,Jk]
  cases st.h.get id with
  | none=>rfl
  | some o =>
   cases o with
   | cells fam ro cs =>
    cases fam with
    | some f=>rfl
    | none =>
     cases ro with
     | true=>rfl
     | false =>
      simp only [Lj,jR,Rb,Sz,Pv]
      by_cases hc:v.cells.length=i.size∧off+i.size≤cs.length∧v.cells.all AV.one
      ·rw[if_pos hc,hc.1,Nat.beq_refl,Nat.ble_eq_true_of_le hc.2.1,hc.2.2]
       rfl
      ·rw[if_neg hc]
       split
       ·rename_i hq
        simp only [Bool.and_eq_true] at hq
        exact absurd ⟨Nat.eq_of_beq_eq_true hq.1,Nat.le_of_ble_eq_true hq.2.1,hq.2.2⟩ hc
       ·rfl
   | _=>rfl
 | _=>rfl
section
variable (T:Ti)(X:St→(Operand→AV)→Oper→Option (List (AV × St)))(call:Dw)
noncomputable def runH (st:St)(f:TF)(o:Oper)(k:Kh):Option (List (AV × St)):=match k with
 | .al cs=>some [(.ptr st.n 0,⟨(st.n,.cells none false cs)::st.h,st.n+1⟩)]
 | .bx x=>some [(.ptr st.n 0,⟨(st.n,.cells none false (Lq (x.ev f)))::st.h,st.n+1⟩)]
 | .sr n p v=>match storeF st n (p.ev f) (v.ev f) with
  | some s=>some [(Bx,s)]
  | none=>X st f.av o
 | .cl g as=>call (g.ev f) (mM f as) st
 | .gen=>heavy T X call st f.av o
noncomputable def Xr (st:St)(f:TF)(o:Oper):Option (List (AV × St)):=runH T X call st f o (compH T o.op)
variable {T X call}
theorem Wh (st:St)(f:TF)(o:Oper):Xr T X call st f o=heavy T X call st f.av o:=by
 unfold Xr
 have gen:runH T X call st f o .gen=heavy T X call st f.av o:=rfl
 obtain⟨dst,op,ty,pos,after,guard⟩:=o
 cases op with
 | alloc e =>
  simp only [compH]
  split
  ·rename_i i hi
   simp only [runH,heavy,evF,hi,Option.map_some]
   rfl
  ·exact gen
 | box t x =>
  simp only [compH]
  split
  ·rename_i a ha
   simp only [runH,heavy,evF,Option.map_some,By ha,Rb]
   rfl
  ·exact gen
 | store t p v =>
  simp only [compH]
  split
  ·rename_i a b i ha hb hi
   simp only [runH,heavy,storeO,By ha,By hb,gS hi]
   cases storeA T st t (f.av p) (f.av v)<;>rfl
  ·exact gen
 | call c =>
  simp only [compH]
  split
  ·rename_i g hg
   split
   ·rename_i a as ha hb
    simp only [runH,heavy,hg,By ha,Qc hb]
   ·exact gen
  ·exact gen
 | _=>exact gen
end
def bind3 {α β:Type}(l:List α)(g:α→Option (List β)):Option (List β):=match l with
 | [x]=>g x
 | l=>bindL l g
theorem Hk {α β:Type}(l:List α)(g:α→Option (List β)):bind3 l g=bindL l g:=by
 unfold bind3
 split
 ·rename_i x
  simp only [bindL]
  cases g x<;>simp
 ·rfl
section
variable (T:Ti)(X:St→(Operand→AV)→Oper→Option (List (AV × St)))(call:Dw)
noncomputable def stepL (ops:Array Oper)(o:Oper)(ih:TF→St→Option (List (TF × St)))(f:TF)(st:St):Option (List (TF × St)):=match Om T ops st.h f o with
 | some r=>ih (Zj (compD o.dst) f r) st
 | none=>match Lg o&&want3 ops f o with
  | true=>match Xr T X call st f o with
   | some outs=>bind3 outs fun x=>ih (Zj (compD o.dst) f x.1) x.2
   | none=>none
  | false=>none
noncomputable def Xu (ops:Array Oper)(l:List Oper):TF→St→Option (List (TF × St)):=@List.rec Oper (fun _=>TF→St→Option (List (TF × St))) (fun f st=>some [(f,st)]) (fun o _ ih=>stepL T X call ops o ih) l
variable {T X call}
theorem Wn (ops:Array Oper):∀ (l:List Oper)(f:TF)(st:St),Xu T X call ops l f st=evOps2 T X call ops l f st
 | [],f,st=>rfl
 | o::l,f,st=>by
  have hih:∀ f st,Xu T X call ops l f st=evOps2 T X call ops l f st:=Wn ops l
  show stepL T X call ops o (Xu T X call ops l) f st=_
  simp only [stepL,evOps2,Nd,Wh,Sp,eV,Hk,hih]
  rfl
end
end Go.Ev
namespace Go.Ev
section
variable (T:Ti)(X:St→(Operand→AV)→Oper→Option (List (AV × St)))(call:Dw)
noncomputable def pend3 (ops:Array Oper)(Af:List (Nat × AV))(f:TF)(h:Hp):Bool:=Af.all fun p=>match ops[p.1]? with
 | none=>false
 | some o=>match Om T ops h f o with
  | some r=>avEq r p.2
  | none=>false
noncomputable def eY (ops:Array Oper)(L:Nat)(h:Hp)(f:TF)(l:List En):Option (En × AV):=@List.rec En (fun _=>Option (En × AV)) none (fun x _ ih=>@Bool.rec (fun _=>Option (En × AV)) ih (match Om T ops h f x.o with
 | some r=>some (x,r)
 | none=>ih) (x.fr&&Qk L x)) l
variable {T X call}
theorem Zn (ops:Array Oper)(Af:List (Nat × AV))(f:TF)(h:Hp):pend3 T ops Af f h=pendOkT T ops Af f h:=by
 unfold pend3 pendOkT
 simp only [Nd]
 rfl
theorem Zm (ops:Array Oper)(L:Nat)(h:Hp)(f:TF):∀ l:List En,eY T ops L h f l=pickE T ops L h f l
 | []=>rfl
 | x::l=>by
  have ih:=Zm ops L h f l
  show @Bool.rec (fun _=>Option (En × AV)) (eY T ops L h f l) (match Om T ops h f x.o with
   | some r=>some (x,r)
   | none=>eY T ops L h f l) (x.fr&&Qk L x)=_
  rw[ih,Nd,pickE]
  cases x.fr&&Qk L x<;>rfl
end
end Go.Ev
namespace Go.Ev
section
variable (T:Ti)
def dlAt (ops:Array Oper)(i:Nat):Option (Nat × List Value):=match ops[i]? with
 | some o=>match o.op with
  | .alloc e=>match o.guard,Bt o,T e with
   | none,[],some ti=>some (i,ti.zero)
   | _,_,_=>none
  | _=>none
 | none=>none
def dlC (ops:Array Oper):List (Nat × List Value):=(List.range ops.size).filterMap (dlAt T ops)
def dlF (l:List (Nat × List Value))(i:Nat):Option (List Value):=match l with
 | []=>none
 | p::r=>match Nat.beq p.1 i with
  | true=>some p.2
  | false=>dlF r i
def ltF (ops:Array Oper)(l:List (Nat × List Value))(i:Nat):Bool:=match dlF l i with
 | some _=>false
 | none=>match ops[i]? with
  | some o=>(match compU T o.op with
   | .hv=>false
   | _=>true)
  | none=>false
def sepB (ops:Array Oper)(M:List Nat)(l:List (Nat × List Value)):Bool:=(List.range ops.size).all fun j=>match ops[j]? with
 | none=>true
 | some oj=>(Bt oj).all fun i=>!((dlF l i).isSome)||(List.range ops.size).all fun u=>match ops[u]? with
  | none=>true
  | some ou=>Nat.beq u j||((M.getD j 0).testBit u||((Bt ou).contains i||(((dlF l u).isSome&&Nat.ble i u)||ltF T ops l u)))
def dlK (ops:Array Oper)(M:List Nat):List (Nat × List Value):=match dlC T ops with
 | []=>[]
 | l=>match sepB T ops M l with
  | true=>l
  | false=>[]
theorem gC:∀ {l:List (Nat × List Value)}{i:Nat}{cs:List Value},dlF l i=some cs→(i,cs)∈l
 | p::r,i,cs,h=>by
  simp only [dlF] at h
  split at h
  ·rename_i hb
   cases h
   have:=Nat.eq_of_beq_eq_true hb
   subst this
   exact List.mem_cons_self
  ·exact List.mem_cons_of_mem _ (gC h)
theorem uO (ops:Array Oper)(M:List Nat):cC T ops (dlF (dlK T ops M))∧gK ops M (dlF (dlK T ops M)) (ltF T ops (dlK T ops M)):=by
 have hlt:∀ (l:List (Nat × List Value))(i:Nat),(dlF l i).isSome=true→ltF T ops l i=false:=fun l i h=>by
  unfold ltF
  cases hd:dlF l i with
  | none=>rw[hd] at h;cases h
  | some c=>rfl
 have nilc:cC T ops (dlF [])∧gK ops M (dlF []) (ltF T ops []):=⟨fun i cs h=>(by cases h),hlt [],fun i j u oj ou h=>(by cases h)⟩
 have hcand:∀ l,dlC T ops=l→cC T ops (dlF l):=fun l hl i cs h=>by
  have hm:=gC h
  rw[←hl] at hm
  unfold dlC at hm
  obtain⟨k,_,hk⟩:=List.mem_filterMap.1 hm
  unfold dlAt at hk
  split at hk
  ·rename_i o ho
   split at hk
   ·rename_i e he
    split at hk
    ·rename_i ti hg hed hti
     simp only [Option.some.injEq,Prod.mk.injEq] at hk
     obtain⟨rfl,rfl⟩:=hk
     exact⟨o,e,ti,ho,he,hg,hed,hti,rfl⟩
    ·cases hk
   ·cases hk
  ·cases hk
 unfold dlK
 split
 ·exact nilc
 ·split
  ·rename_i hs
   refine⟨hcand _ rfl,hlt _,fun i j u oj ou hi hj hu he=>?_⟩
   unfold sepB at hs
   have h1:=List.all_eq_true.1 hs j (List.mem_range.2 (Array.getElem?_eq_some_iff.1 hj).1)
   simp only [hj] at h1
   have h2:=List.all_eq_true.1 h1 i he
   rw[hi] at h2
   simp only [Bool.not_true,Bool.false_or] at h2
   have h3:=List.all_eq_true.1 h2 u (List.mem_range.2 (Array.getElem?_eq_some_iff.1 hu).1)
   simp only [hu,Bool.or_eq_true,Bool.and_eq_true] at h3
   rcases h3 with h3|h3|h3|h3|h3
   ·exact .inl (Nat.eq_of_beq_eq_true h3)
   ·exact .inr (.inl h3)
   ·exact .inr (.inr (.inl (List.contains_iff_mem.1 h3)))
   ·exact .inr (.inr (.inr (.inl ⟨h3.1,Nat.le_of_ble_eq_true h3.2⟩)))
   ·exact .inr (.inr (.inr (.inr h3)))
  ·exact nilc
end
noncomputable def oZ (h:Hp):Bool:=Vn (fun x:Nat × AObj=>x.2.own) h
theorem fC {h:Hp}(hb:oZ h=true):∀ id o,h.get id=some o→o.own=true:=by
 unfold oZ at hb
 rw[Ib] at hb
 induction h with
 | nil=>intro id o h;cases h
 | cons x r ih =>
  rw[List.all_cons,Bool.and_eq_true] at hb
  intro id o h
  obtain⟨i,y⟩:=x
  simp only [Hp.get] at h
  split at h
  ·cases h;exact hb.1
  ·exact ih hb.2 id o h
section
variable (T:Ti)(X:St→(Operand→AV)→Oper→Option (List (AV × St)))(call:Dw)
def lO (ops:Array Oper)(dl:List (Nat × List Value))(un:List En):Bool:=un.all fun x=>(dlF dl x.i).isSome||(ltF T ops dl x.i||un.any fun y=>(dlF dl y.i).isSome&&(Bt x.o).contains y.i)
def both (a b:Option (List (TF × St))):Option (List (TF × St)):=match a with
 | none=>none
 | some x=>match b with
  | none=>none
  | some y=>(match x with
   | []=>some y
   | x=>some (x++y))
noncomputable def evDrawn4 (ops:Array Oper)(M:List Nat)(dl:List (Nat × List Value)):Nat→List (Nat × AV)→List En→Nat→TF→St→Option (List (TF × St))
 | 0,Af,un,L,f,st=>match pend3 T ops Af f st.h&&(un.filter (Qk L)).isEmpty with
  | true=>some [(f,st)]
  | false=>none
 | fuel+1,Af,un,L,f,st =>
  match eY T ops L st.h f un with
  | some (x,r)=>match dlF dl x.i with
   | none=>evDrawn4 ops M dl fuel ((x.i,r)::Af) (Mu x.i un) (Nat.lor (1 <<< x.i) L) (Zj (compD x.o.dst) f r) st
   | some _=>none
  | none=>match pend3 T ops Af f st.h with
   | false=>none
   | true=>match un.filter (Qk L) with
    | []=>some [(f,st)]
    | y::ys =>
     let third:=bind3 ((y::ys).filter (fun x=>(dlF dl x.i).isNone)) fun x=>match Om T ops st.h f x.o with
      | some r=>evDrawn4 ops M dl fuel (Cg M x.i Af) (Mu x.i un) (Nat.lor (1 <<< x.i) L) (Zj (compD x.o.dst) f r) st
      | none=>match want3 ops f x.o with
       | true=>match Xr T X call st f x.o with
        | some outs=>bind3 outs fun z=>evDrawn4 ops M dl fuel (Cg M x.i Af) (Mu x.i un) (Nat.lor (1 <<< x.i) L) (Zj (compD x.o.dst) f z.1) z.2
        | none=>none
       | false=>none
     match un.find? (fun x=>(dlF dl x.i).isSome) with
     | none=>third
     | some y=>match lO T ops dl un with
      | false=>third
      | true=>match dlF dl y.i with
       | none=>none
       | some cs=>match oZ st.h&&un.all (fun x=>!((dlF dl x.i).isSome)||Nat.ble y.i x.i) with
        | false=>none
        | true=>both third (evDrawn4 ops M dl fuel (Cg M y.i Af) (Mu y.i un) (Nat.lor (1 <<< y.i) L) (Zj (compD y.o.dst) f (.ptr st.n 0)) ⟨(st.n,.cells none false (cs.map .lit))::st.h,st.n+1⟩)
end
section
variable {P:Program}{T:Ti}{X:St→(Operand→AV)→Oper→Option (List (AV × St))}{call:Dw}{L:Nat}
theorem Gt.done {ops:Array Oper}{M:List Nat}{rd:Option Nat}{dl:Nat→Option (List Value)}{lt:Nat→Bool}{K:Fm→St→Prop}{Af:List (Nat × AV)}{listed:Array Bool}{f:Fm}{st:St}(hD:cC T ops dl)(hp:Cc T ops Af f st.h)(hr:Region.ready .any ops listed=[])(h:K f st):∀ fuel,Gt P T ops M rd dl lt K fuel Af listed f st
 | 0=>⟨hp,hr,h⟩
 | _+1=>⟨hp,fun _=>h,fun j hj=>(by rw[hr] at hj;cases hj),fun _ ⟨k,hk1,hk2⟩=>by
   exfalso
   obtain⟨cs,hcs⟩:=Option.isSome_iff_exists.1 hk1
   obtain⟨o,e,ti,ho,_,_,hed,_⟩:=hD k cs hcs
   have:k∈Region.ready .any ops listed:=Mh ho hk2 fun e he=>by rw[hed] at he;cases he
   rw[hr] at this;cases this⟩
theorem Inv.cG {ops:Array Oper}{M:List Nat}{listed:Array Bool}{un:List En}{L:Nat}(h:Inv ops M listed un L){x:En}:x∈un↔infoAt ops M x.i=some x∧listed.getD x.i true=false:=by
 rw[h.un,List.mem_filter]
 constructor
 ·rintro⟨h1,h2⟩
  unfold Ns at h1
  obtain⟨i,_,h3⟩:=List.mem_filterMap.1 h1
  have h4:=Fh h3
  rw[h4.1]
  rw[h4.1] at h2
  exact⟨h3,by simpa using h2⟩
 ·rintro⟨h1,h2⟩
  refine⟨?_,by simpa using h2⟩
  unfold Ns
  refine List.mem_filterMap.2 ⟨x.i,List.mem_range.2 ?_,h1⟩
  exact(Array.getElem?_eq_some_iff.1 (Fh h1).2.1).1
theorem iX {ops:Array Oper}{M:List Nat}{i:Nat}{o:Oper}(h:ops[i]?=some o):∃ x,infoAt ops M i=some x∧x.i=i∧x.o=o:=by
 unfold infoAt
 rw[h]
 exact⟨_,rfl,rfl,rfl⟩
theorem Hh (hT:TOk P T)(hX:XOk P X)(hc:Lt P call){rd:Option Nat}{ops:Array Oper}{M:List Nat}(hM:Tidy ops M){dl:List (Nat × List Value)}(hD:cC T ops (dlF dl)){K:Fm→St→Prop}:∀ (fuel:Nat){Af:List (Nat × AV)}{listed:Array Bool}{un:List En}{L:Nat}{f:TF}{st:St}{outs:List (TF × St)},
  Inv ops M listed un L→Ck ops listed→PL Af listed→f.ok→evDrawn4 T X call ops M dl fuel Af un L f st=some outs→(∀ x∈outs,x.1.ok→K x.1.abs x.2)→Gt P T ops M rd (dlF dl) (ltF T ops dl) K fuel Af listed f.abs st
 | 0,Af,listed,un,L,f,st,outs,hi,hcl,hpl,hf,h,hk=>by
  simp only [evDrawn4,Zn] at h
  split at h
  ·rename_i hb
   simp only [Bool.and_eq_true,List.isEmpty_iff] at hb
   cases h
   exact Gt.done hD (Ir hb.1) (by rw[hi.ready,hb.2];rfl) (hk (f,st) (List.mem_singleton.2 rfl) hf) 0
  ·cases h
 | fuel+1,Af,listed,un,L,f,st,outs,hi,hcl,hpl,hf,h,hk=>by
  simp only [evDrawn4,Zn,Zm,Nd,Wh,Sp,eV,Hk] at h
  split at h
  ·rename_i x r hp
   obtain⟨h1,h2,h3⟩:=kY hp
   obtain⟨h4,h5,h6⟩:=hi.mem h1
   have hlt:=(Array.getElem?_eq_some_iff.1 h5).1
   split at h
   ·rename_i hdl
    refine Gt.take hM hT h5 hdl hD fuel hcl hpl (Pw hM h5 hcl hpl h4 (by rw[←h6];exact h2)) h4 (by rw[Nc h5];exact h3) ?_
    rw[←TF.Nh hf]
    refine Hh hT hX hc hM hD fuel (hi.set hlt) (hcl.set h4) (fun p hm=>?_) (TF.Qm hf _ _) h hk
    rcases List.mem_cons.1 hm with rfl|hm
    ·have:x.i<listed.size:=by rw[hi.size];exact hlt
     simp[this]
    ·exact getD_set_true (hpl p hm)
   ·cases h
  ·split at h
   ·cases h
   ·rename_i hb
    split at h
    ·rename_i hq
     cases h
     exact Gt.done hD (Ir hb) (by rw[hi.ready,hq];rfl) (hk (f,st) (List.mem_singleton.2 rfl) hf) _
    ·rename_i y ys hq
     have hready:=hi.ready.trans (by rw[hq])
     have third:∀ (outs3:List (TF × St)),(bindL ((y::ys).filter (fun x=>(dlF dl x.i).isNone)) fun x=>match lightT T ops st.h f x.o with
       | some r=>evDrawn4 T X call ops M dl fuel (Cg M x.i Af) (Mu x.i un) (Nat.lor (1 <<< x.i) L) (f.put x.o.dst r) st
       | none=>match Jf ops f x.o with
        | true=>match heavy T X call st f.av x.o with
         | some outs=>bindL outs fun z=>evDrawn4 T X call ops M dl fuel (Cg M x.i Af) (Mu x.i un) (Nat.lor (1 <<< x.i) L) (f.put x.o.dst z.1) z.2
         | none=>none
        | false=>none)=some outs3→(∀ x∈outs3,x∈outs) →
       ∀ j∈Region.ready .any ops listed,dlF dl j=none→∃ o,ops[j]?=some o∧Ac P rd ops [j] (fun f' st'=>∃ v,f'=f.abs.put o.dst v∧Gt P T ops M rd (dlF dl) (ltF T ops dl) K fuel (Cg M j Af) (listed.setIfInBounds j true) f' st') f.abs st:=by
      intro outs3 h hsub j hj hn
      rw[hready,List.mem_map] at hj
      obtain⟨x,hx,rfl⟩:=hj
      obtain⟨h4,h5,h6⟩:=hi.mem (by rw[hq];exact hx)
      have hlt:=(Array.getElem?_eq_some_iff.1 h5).1
      obtain⟨os,h1,h2⟩:=Fl h x (List.mem_filter.2 ⟨hx,by rw[hn];rfl⟩)
      have hpl':PL (Cg M x.i Af) (listed.setIfInBounds x.i true):=fun p hm=>getD_set_true (hpl p (List.mem_filter.1 hm).1)
      refine⟨x.o,h5,?_⟩
      split at h1
      ·rename_i r hr
       refine Ac.lightV hT h5 (by rw[Nc h5];exact hr) (.nil ⟨r,rfl,?_⟩)
       rw[←TF.Nh hf]
       exact Hh hT hX hc hM hD fuel (hi.set hlt) (hcl.set h4) hpl' (TF.Qm hf _ _) h1 fun z hz=>hk z (hsub z (h2 z hz))
      ·split at h1
       ·rename_i hw
        split at h1
        ·rename_i os2 hos
         rw[←TF.Ux] at hos
         refine(aX hT hX hc h5 (by rw[So];exact hw) hos).mono fun f' st' ⟨v,hf',hm⟩=>⟨v,hf',?_⟩
         subst hf'
         obtain⟨q,h7,h8⟩:=Fl h1 (v,st') hm
         rw[←TF.Nh hf]
         exact Hh hT hX hc hM hD fuel (hi.set hlt) (hcl.set h4) hpl' (TF.Qm hf _ _) h7 fun z hz=>hk z (hsub z (h2 z (h8 z hz)))
        ·cases h1
       ·cases h1
     have hent:∀ k,(dlF dl k).isSome=true→listed.getD k true=false→∃ z∈un,z.i=k:=fun k hk1 hk2=>by
      obtain⟨cs,hcs⟩:=Option.isSome_iff_exists.1 hk1
      obtain⟨o,_,_,ho,_⟩:=hD k cs hcs
      obtain⟨z,hz,hzi,_⟩:=iX (M:=M) ho
      exact⟨z,hi.cG.2 ⟨by rw[hzi];exact hz,by rw[hzi];exact hk2⟩,hzi⟩
     split at h
     ·rename_i hnf
      refine⟨Ir hb,fun h0=>(by rw[hready] at h0;cases h0),third _ h fun x hx=>hx,fun _ ⟨k,hk1,hk2⟩=>?_⟩
      exfalso
      obtain⟨z,hz,rfl⟩:=hent k hk1 hk2
      have:=List.find?_eq_none.1 hnf z hz
      exact this hk1
     ·rename_i y0 hy0
      have hy0m:=List.mem_of_find?_eq_some hy0
      have hy0u:=hi.cG.1 hy0m
      split at h
      ·rename_i hleft
       refine⟨Ir hb,fun h0=>(by rw[hready] at h0;cases h0),third _ h fun x hx=>hx,fun hC _=>?_⟩
       exfalso
       have:lO T ops dl un=true:=by
        unfold lO
        rw[List.all_eq_true]
        intro x hx
        have hxu:=hi.cG.1 hx
        have hxo:=(Fh hxu.1).2.1
        simp only [Bool.or_eq_true]
        rcases hC x.i x.o hxo hxu.2 with h1|h1|⟨k,k1,k2,k3⟩
        ·exact .inl h1
        ·exact .inr (.inl h1)
        ·right;right
         obtain⟨z,hz,rfl⟩:=hent k k1 k2
         rw[List.any_eq_true]
         exact⟨z,hz,by simp only [Bool.and_eq_true];exact⟨k1,List.contains_iff_mem.2 k3⟩⟩
       rw[this] at hleft;cases hleft
      ·split at h
       ·cases h
       ·rename_i cs hcs
        split at h
        ·cases h
        ·rename_i hg
         simp only [Bool.and_eq_true] at hg
         obtain⟨hown,hmin⟩:=hg
         unfold both at h
         split at h
         ·cases h
         ·rename_i o3 ho3
          split at h
          ·cases h
          ·rename_i o4 ho4
           have hmem:(∀ x∈o3,x∈outs)∧∀ x∈o4,x∈outs:=by
            split at h
            ·cases h;exact⟨fun x hx=>(by cases hx),fun x hx=>hx⟩
            ·cases h;exact⟨fun x hx=>List.mem_append_left _ hx,fun x hx=>List.mem_append_right _ hx⟩
           refine⟨Ir hb,fun h0=>(by rw[hready] at h0;cases h0),third _ ho3 hmem.1,fun _ _=>⟨y0.i,cs,hcs,hy0u.2,fun k hk1 hk2=>?_,fC hown,?_⟩⟩
           ·obtain⟨z,hz,rfl⟩:=hent k hk1 hk2
            have:=List.all_eq_true.1 hmin z hz
            rw[hk1] at this
            exact Nat.le_of_ble_eq_true (by simpa using this)
           ·have h5:=(Fh hy0u.1).2.1
            obtain⟨o',e',ti,ho',_,_,hed,_⟩:=hD y0.i cs hcs
            have hlt:=(Array.getElem?_eq_some_iff.1 h5).1
            rw[h5] at ho';cases ho'
            have h4:y0.i∈Region.ready .any ops listed:=Mh h5 hy0u.2 fun e he=>by rw[hed] at he;cases he
            refine⟨y0.o,h5,?_⟩
            rw[←TF.Nh hf]
            exact Hh hT hX hc hM hD fuel (hi.set hlt) (hcl.set h4) (fun p hm=>getD_set_true (hpl p (List.mem_filter.1 hm).1)) (TF.Qm hf _ _) ho4 fun x hx=>hk x (hmem.2 x hx)
theorem SW.uN {ops:Array Oper}{M:List Nat}(hm:P.follows .mixedOrders=true)(hT:TOk P T){rd:Option Nat}{id:Nat}{Q:Exit→Fm→St→Prop}{f:Fm}{st:St}(hM:Tidy ops M){dl:Nat→Option (List Value)}{lt:Nat→Bool}(hD:cC T ops dl)(hS:gK ops M dl lt)
  (h:Gt P T ops M rd dl lt (fun f' st'=>Q .normal f' st') ops.size [] (Array.replicate ops.size false) f st):SW P rd (.region id ops true) Q f st:=by
 intro φ w a n h1 h2 h3
 refine wpIn_region_any hm ?_
 have hrel:Rel φ st { w with drawn:=w.drawn+1}:=h2.of_heap rfl
 have hs:=Gt.sound (P:=P) (w0:={ w with drawn:=w.drawn+1}) (st0:=st) (φ0:=φ) (Q:=Eg φ st w Q) (n:=n) (rd:=rd) (K:=fun f' st'=>Q .normal f' st') hM hT hD hS h1 (fun a' w' hl=>by
  obtain⟨f',st',φ',k,he,hr,ha,hf⟩:=hl
  exact⟨f',st',φ',k,he,hr,ha,⟨hf.os,hf.tape,hf.output,hf.size,hf.block,hf.own⟩⟩) (2*ops.size) ops.size [] [] (Array.replicate ops.size false) (Array.replicate ops.size false) f st φ { w with drawn:=w.drawn+1} a (by simp)
  (by unfold dX;have:=List.countP_le_length (p:=fun k=>!((Array.replicate ops.size false).getD k true)) (l:=List.range ops.size);simpa using this) h
  ⟨fun g hg=>(by cases hg),(by simp),(by simp),(by simp),(by simp),fun k hk=>(by simp),Ha,Ha⟩ (Ext.refl _) hrel h3 (Fr.refl _ _ _)
 exact hs
end
end Go.Ev
namespace Go.Ev
noncomputable def sI {α β:Type}(g:α→β)(l:List α):List β:=@List.rec α (fun _=>List β) [] (fun a _ ih=>g a::ih) l
theorem fL {α β:Type}(g:α→β):∀ l:List α,sI g l=l.map g
 | []=>rfl
 | a::l=>by show g a::sI g l=_;rw[fL g l];rfl
noncomputable def tsL (f:TF):List AV:=match Nat.ble f.len 1048575 with
 | true=>sI (fun i=>goP (pth i) f.t) (List.range f.len)
 | false=>f.abs.ts
theorem rX (f:TF):tsL f=f.abs.ts:=by
 unfold tsL
 split
 ·rename_i hb
  have hb:=Nat.le_of_ble_eq_true hb
  rw[fL]
  show _=(List.range f.len).map f.t.get
  refine List.map_congr_left fun i hi=>?_
  have:=List.mem_range.1 hi
  rw[pth,Xs 20 f.t i (by omega)]
 ·rfl
noncomputable def Nr (st:St)(id:Nat):Option Cs:=match Bw st.h id with
 | some (.loop r)=>some r
 | _=>none
theorem Iv (st:St)(id:Nat):Nr st id=loopAt st id:=by
 unfold Nr loopAt
 rw[Jk]
 cases st.h.get id with
 | none=>rfl
 | some o=>cases o<;>rfl
noncomputable def Wz (st:St)(id:Nat)(r:Cs):St:=⟨Vh st.h id (.loop r),st.n⟩
theorem Pc (st:St)(id:Nat)(r:Cs):Wz st id r=Bl st id r:=by unfold Wz Bl;rw[Pv]
noncomputable def rangeQ (lid:Nat)(f:TF)(st:St):Option (List Dt) :=
 match Nr st lid with
 | none=>none
 | some r=>match r.state with
  | .busy=>none
  | _=>match r.pending with
   | none=>some [(.normal,f,Wz st lid { r with state:=.exhausted})]
   | some c=>match jumpE c with
    | some e=>some [(e,f,Wz st lid { r with state:=.exhausted})]
    | none=>none
theorem iE (lid:Nat)(f:TF)(st:St):rangeQ lid f st=rangeT lid f st:=by
 unfold rangeQ rangeT
 simp only [Iv,Pc]
 cases loopAt st lid with
 | none=>rfl
 | some r =>
  simp only
  cases r.state<;>simp only
  all_goals (cases r.pending with
   | none=>rfl
   | some c=>simp only;cases jumpE c<;>rfl)
def map3 (o:Option (List (TF × St))):Option (List Dt):=match o with
 | some [x]=>some [(.normal,x.1,x.2)]
 | some l=>some (l.map Tq)
 | none=>none
theorem pM (o:Option (List (TF × St))):map3 o=o.map fun l=>l.map Tq:=by
 unfold map3
 split
 ·rfl
 ·rfl
 ·rfl
noncomputable def iter3 (body:TF→St→Option (List Dt))(n:Nat):TF→St→Option (List Dt):=@Nat.rec (fun _=>TF→St→Option (List Dt)) (fun _ _=>none) (fun _ ih f st=>match body f st with
 | none=>none
 | some outs=>bind3 outs fun x=>match x with
  | (.normal,f',st')=>ih f' st'
  | (e,f',st')=>some [(e,f',st')]) n
theorem aN {b1 b2:TF→St→Option (List Dt)}(h:∀ f st,b1 f st=b2 f st):∀ (n:Nat)(f:TF)(st:St),iter3 b1 n f st=iterT b2 n f st
 | 0,f,st=>rfl
 | n+1,f,st=>by
  have ih:∀ f st,iter3 b1 n f st=iterT b2 n f st:=aN h n
  show(match b1 f st with
   | none=>none
   | some outs=>bind3 outs fun x=>match x with
    | (.normal,f',st')=>iter3 b1 n f' st'
    | (e,f',st')=>some [(e,f',st')])=_
  rw[h]
  simp only [iterT,Hk,ih]
  rfl
def oW (oa:Option (List Dt))(kb:TF→St→Option (List Dt)):Option (List Dt):=match oa with
 | none=>none
 | some outs=>bind3 outs fun x=>match x with
  | (.normal,f',st')=>kb f' st'
  | (e,f',st')=>some [(e,f',st')]
noncomputable def cond3 (c:Operand)(ka kb:TF→St→Option (List Dt))(f:TF)(st:St):Option (List Dt):=match compA c with
 | some a=>match a.ev f with
  | .lit (.bool true)=>ka f st
  | .lit (.bool false)=>kb f st
  | _=>none
 | none=>match f.av c with
  | .lit (.bool true)=>ka f st
  | .lit (.bool false)=>kb f st
  | _=>none
theorem nQ (c:Operand)(ka kb:TF→St→Option (List Dt))(f:TF)(st:St):cond3 c ka kb f st=match f.av c with
  | .lit (.bool true)=>ka f st
  | .lit (.bool false)=>kb f st
  | _=>none:=by
 unfold cond3
 split
 ·rename_i a ha
  rw[By ha]
 ·rfl
def block3 (id:Nat)(oc:Option (List Dt)):Option (List Dt):=match oc with
 | none=>none
 | some [x]=>some [blockT id x]
 | some outs=>some (outs.map (blockT id))
theorem jO (id:Nat)(oc:Option (List Dt)):block3 id oc=oc.map fun l=>l.map (blockT id):=by
 unfold block3
 split<;>rfl
def cT (oc:Option (List Dt)):Option (List Dt):=match oc with
 | none=>none
 | some outs=>match outs.all fI with
  | true=>some outs
  | false=>none
def dC (n:Nat)(o:Option (List (TF × St))):Option (List Dt):=match o with
 | some [x]=>some [(.normal,x.1,x.2)]
 | some l=>some ((mergeF n l).map Tq)
 | none=>none
theorem iO (n:Nat)(o:Option (List (TF × St))):dC n o=o.map fun l=>(mergeF n l).map Tq:=by
 unfold dC
 split<;>rfl
section
variable (T:Ti)(X:St→(Operand→AV)→Oper→Option (List (AV × St)))(call:Dw)(L:Nat)
noncomputable def Sg (ops:Array Oper)(draw:Bool)(f:TF)(st:St):Option (List Dt):=match draw with
 | true=>dC st.n (evDrawn4 T X call ops (Dr ops) (dlK T ops (Dr ops)) ops.size [] (Ns ops (Dr ops)) 0 f st)
 | false=>map3 (Xu T X call ops ops.toList f st)
noncomputable def range3 (rd:Option Nat)(g:Operand)(ps:Array Tmp)(assign body:Code)(f:TF)(st:St):Option (List Dt):=match f.av g with
 | .fn (.func gf) first caps=>match rd with
  | none=>match call (.fn (.func gf) first caps) [.yld (st.n+1)] ((st.push .dfr).push (.loop { state:=.ready,pending:=none,tmps:=tsL f,params:=ps,assign,body,dfid:=st.n})) with
   | none=>none
   | some outs=>bind3 outs fun x=>rangeQ (st.n+1) { f with dm:=st.n::f.dm} x.2
  | some id0=>match Nr st id0 with
   | none=>none
   | some r0=>match call (.fn (.func gf) first caps) [.yld st.n] (st.push (.loop { state:=.ready,pending:=none,tmps:=tsL f,params:=ps,assign,body,dfid:=r0.dfid})) with
    | none=>none
    | some outs=>bind3 outs fun x=>rangeQ st.n f x.2
 | _=>none
noncomputable def Eu (rd:Option Nat)(c:Code):TF→St→Option (List Dt):=@Code.rec (fun _=>TF→St→Option (List Dt))
 (fun f st=>some [(.normal,f,st)])
 (fun _ ops draw=>Sg T X call ops draw)
 (fun _ _ iha ihb f st=>oW (iha f st) ihb)
 (fun c _ _ iha ihb=>cond3 c iha ihb)
 (fun id _ ih f st=>block3 id (ih f st))
 (fun _ ih=>iter3 ih L)
 (fun g ps assign body _ _=>range3 call rd g ps assign body)
 (fun id f st=>some [(.exit id,f,st)])
 (fun _ ih f st=>cT (ih f st))
 (fun _ f st=>some [(.normal,f,st)])
 (fun _ _ _=>none)
 (fun f st=>some [(.ret,f,st)])
 (fun _ _ _=>none) c
end
section
variable {P:Program}{T:Ti}{X:St→(Operand→AV)→Oper→Option (List (AV × St))}{call:Dw}{L:Nat}
theorem SW.oP {rd:Option Nat}{c:Code}{K:Exit→Fm→St→Prop}{body:TF→St→Option (List Dt)}(hb:∀ f st outs,f.ok→body f st=some outs→SW P rd c (fun e f' st'=>∃ tf,tf.ok∧f'=tf.abs∧(e,tf,st')∈outs) f.abs st){n:Nat}{f:TF}{st:St}{outs:List Dt}
  (hf:f.ok)(h:iter3 body n f st=some outs)(hk:∀ x∈outs,x.2.1.ok→K x.1 x.2.1.abs x.2.2):SW P rd (.loop c) K f.abs st:=by
 rw[aN (fun _ _=>rfl)] at h
 exact SW.oO hb hf h hk
theorem Xx (hm:P.follows .mixedOrders=true)(hT:TOk P T)(hX:XOk P X)(hc:Lt P call){rd:Option Nat}:∀ (c:Code){f:TF}{st:St}{outs:List Dt}{K:Exit→Fm→St→Prop},f.ok→tidyC c=true→Eu T X call L rd c f st=some outs→(∀ x∈outs,x.2.1.ok→K x.1 x.2.1.abs x.2.2)→SW P rd c K f.abs st:=by
 intro c
 induction c with
 | skip=>intro f st outs K hf ht h hk;cases h;exact .skip (hk (.normal,f,st) (List.mem_singleton.2 rfl) hf)
 | label l=>intro f st outs K hf ht h hk;cases h;exact .label (hk (.normal,f,st) (List.mem_singleton.2 rfl) hf)
 | exit id=>intro f st outs K hf ht h hk;cases h;exact .exit (hk (.exit id,f,st) (List.mem_singleton.2 rfl) hf)
 | ret=>intro f st outs K hf ht h hk;cases h;exact .ret (hk (.ret,f,st) (List.mem_singleton.2 rfl) hf)
 | goto l=>intro f st outs K hf ht h hk;cases h
 | scope c ih =>
  intro f st outs K hf ht h hk
  simp only [tidyC] at ht
  have h:cT (Eu T X call L rd c f st)=some outs:=h
  unfold cT at h
  split at h
  ·cases h
  ·rename_i os hos
   split at h
   ·rename_i hall
    cases h
    refine .scope (ih hf ht hos fun x hx hok=>?_)
    obtain⟨e,f',st'⟩:=x
    have h1:=hk _ hx hok
    have h2:=List.all_eq_true.1 hall _ hx
    cases e with
    | goto l=>cases h2
    | _=>exact h1
   ·cases h
 | refuse why=>intro f st outs K hf ht h hk;cases h
 | seq a b iha ihb =>
  intro f st outs K hf ht h hk
  simp only [tidyC,Bool.and_eq_true] at ht
  have h:oW (Eu T X call L rd a f st) (Eu T X call L rd b)=some outs:=h
  unfold oW at h
  split at h
  ·cases h
  ·rename_i os hos
   rw[Hk] at h
   refine .seq (iha hf ht.1 hos fun x hx hok=>?_)
   obtain⟨e,f',st'⟩:=x
   obtain⟨y,h1,h2⟩:=Fl h _ hx
   cases e with
   | normal=>exact ihb hok ht.2 h1 fun z hz=>hk z (h2 z hz)
   | _=>simp only [Option.some.injEq] at h1;subst h1;exact hk (_,f',st') (h2 (_,f',st') (List.mem_singleton.2 rfl)) hok
 | cond c a b iha ihb =>
  intro f st outs K hf ht h hk
  simp only [tidyC,Bool.and_eq_true] at ht
  have h:cond3 c (Eu T X call L rd a) (Eu T X call L rd b) f st=some outs:=h
  rw[nQ] at h
  split at h
  ·rename_i hq;exact SW.cond (t:=true) (by rw[TF.Ux];exact hq) (iha hf ht.1 h hk)
  ·rename_i hq;exact SW.cond (t:=false) (by rw[TF.Ux];exact hq) (ihb hf ht.2 h hk)
  ·cases h
 | block id c ih =>
  intro f st outs K hf ht h hk
  simp only [tidyC] at ht
  have h:block3 id (Eu T X call L rd c f st)=some outs:=h
  rw[jO] at h
  cases hos:Eu T X call L rd c f st with
  | none=>rw[hos] at h;cases h
  | some os =>
   rw[hos] at h
   simp only [Option.map_some,Option.some.injEq] at h
   subst h
   refine .block (ih hf ht hos fun x hx hok=>?_)
   obtain⟨e,f',st'⟩:=x
   have h1:=hk _ (List.mem_map_of_mem hx)
   cases e with
   | exit id' =>
    simp only [blockQ]
    split
    ·rename_i hid;simp only [blockT,hid,if_true] at h1;exact h1 hok
    ·rename_i hid;simp only [blockT,hid,if_false] at h1;exact h1 hok
   | _=>exact h1 hok
 | loop c ih =>
  intro f st outs K hf ht h hk
  simp only [tidyC] at ht
  have h:iter3 (Eu T X call L rd c) L f st=some outs:=h
  exact SW.oP (fun f st outs hf h=>ih hf ht h fun x hx hok=>⟨x.2.1,hok,rfl,hx⟩) hf h hk
 | region id ops draw =>
  intro f st outs K hf ht h hk
  have h:Sg T X call ops draw f st=some outs:=h
  cases draw with
  | false =>
   simp only [Sg,pM,Wn] at h
   cases he:evOps2 T X call ops ops.toList f st with
   | none=>rw[he] at h;cases h
   | some l =>
    rw[he] at h
    simp only [Option.map_some,Option.some.injEq] at h
    subst h
    refine .region ?_
    have h2:=Qx (rd:=rd) (K:=fun f' st'=>K .normal f' st') hT hX hc ops.toList 0 hf rfl he fun x hx hok=>hk _ (List.mem_map_of_mem hx) hok
    rwa [List.range_eq_range',←Array.length_toList]
  | true =>
   simp only [tidyC] at ht
   simp only [Sg,iO] at h
   cases he:evDrawn4 T X call ops (Dr ops) (dlK T ops (Dr ops)) ops.size [] (Ns ops (Dr ops)) 0 f st with
   | none=>rw[he] at h;cases h
   | some l =>
    rw[he] at h
    simp only [Option.map_some,Option.some.injEq] at h
    subst h
    obtain⟨hD,hS⟩:=uO T ops (Dr ops)
    refine SW.merge (l:=l) (.uN hm hT (Ky ht) hD hS (Hh (K:=fun f' st'=>Exit.normal=.normal∧∃ x∈l,x.1.ok∧f'=x.1.abs∧st'=x.2) hT hX hc (Ky ht) hD _ (Inv.start ops _) Ha (fun p hp=>by cases hp) hf he fun x hx hok=>⟨rfl,x,hx,hok,rfl,rfl⟩)) fun x hx hok=>?_
    exact hk _ (List.mem_map_of_mem (f:=Tq) hx) hok
 | rangeFunc g ps assign body iha ihb =>
  intro f st outs K hf ht h hk
  have h:range3 call rd g ps assign body f st=some outs:=h
  simp only [range3,Hk,iE,Iv,rX] at h
  split at h
  ·rename_i gf first caps hg
   cases rd with
   | none =>
    simp only at h
    split at h
    ·cases h
    ·rename_i os hos
     obtain⟨hent,hcw⟩:=hc _ _ _ _ hos
     refine .rangeFunc (by rw[TF.Ux];exact hg) hent (hcw.mono fun v st' hm=>?_)
     obtain⟨y,h1,h2⟩:=Fl h _ hm
     exact Wa (f:={ f with dm:=st.n::f.dm}) h1 hf (fun x hx=>hk x (h2 x hx)) v
   | some id0 =>
    simp only at h
    split at h
    ·cases h
    ·rename_i r0 hr0
     split at h
     ·cases h
     ·rename_i os hos
      obtain⟨hent,hcw⟩:=hc _ _ _ _ hos
      refine .Zi hr0 (by rw[TF.Ux];exact hg) hent (hcw.mono fun v st' hm=>?_)
      obtain⟨y,h1,h2⟩:=Fl h _ hm
      exact Wa h1 hf (fun x hx=>hk x (h2 x hx)) v
  ·cases h
end
end Go.Ev
namespace Go.Ev
noncomputable def Nt (l:List AV):Bool→List AV:=@List.rec AV (fun _=>Bool→List AV) (fun _=>[]) (fun a _ ih b=>@Bool.rec (fun _=>List AV) (ih true) (a::ih false) b) l
theorem iY (b:Bool):Nt [] b=[]:=rfl
theorem aY (a:AV)(r:List AV):Nt (a::r) true=a::Nt r false:=rfl
theorem mC (a:AV)(r:List AV):Nt (a::r) false=Nt r true:=rfl
theorem Ng:∀ (l:List AV)(b:Bool)(k:Nat),(Nt l b)[k]?=l[2*k+(if b then 0 else 1)]?
 | [],b,k=>by simp[iY]
 | a::r,true,0=>by simp[aY]
 | a::r,true,k+1=>by
  rw[aY,List.getElem?_cons_succ,Ng r false k]
  simp only [Bool.false_eq_true,if_false,if_true]
  rw[show 2*(k+1)+0=(2*k+1)+1 from by omega,List.getElem?_cons_succ]
 | a::r,false,k=>by
  rw[mC,Ng r true k]
  simp only [Bool.false_eq_true,if_false,if_true]
  rw[List.getElem?_cons_succ]
  rfl
noncomputable def Ss (n:Nat):List AV→Tr:=@Nat.rec (fun _=>List AV→Tr) (fun _=>.nil) (fun _ ih l=>@List.rec AV (fun _=>Tr) .nil (fun a r _=>.node a (ih (Nt r true)) (ih (Nt r false))) l) n
theorem Qh:∀ (n:Nat)(l:List AV)(i:Nat),i+1<2^n→(Ss n l).get i=l.getD i Bx
 | 0,l,i,h=>by simp at h
 | n+1,[],i,h=>by
  have:Ss (n+1) []=.nil:=rfl
  rw[this];simp[Tr.get]
 | n+1,a::r,i,h=>by
  have hp:2^(n+1)=2*2^n:=by rw[Nat.pow_succ];omega
  rw[hp] at h
  have:Ss (n+1) (a::r)=.node a (Ss n (Nt r true)) (Ss n (Nt r false)):=rfl
  rw[this]
  simp only [Tr.get]
  cases hi:Nat.beq i 0 with
  | true=>have:=Nat.eq_of_beq_eq_true hi;subst this;rfl
  | false =>
   have hi:=Nat.ne_of_beq_eq_false hi
   cases hm:Nat.beq (i%2) 1 with
   | true =>
    have hm:=Nat.eq_of_beq_eq_true hm
    simp only
    rw[Qh n _ _ (by omega),List.getD_eq_getElem?_getD,List.getD_eq_getElem?_getD,Ng]
    obtain⟨j,rfl⟩:∃ j,i=2*j+1:=⟨i/2,by omega⟩
    rw[show(2*j+1)/2=j from by omega,List.getElem?_cons_succ]
    simp
   | false =>
    have hm:=Nat.ne_of_beq_eq_false hm
    simp only
    rw[Qh n _ _ (by omega),List.getD_eq_getElem?_getD,List.getD_eq_getElem?_getD,Ng]
    obtain⟨j,rfl⟩:∃ j,i=2*j+2:=⟨i/2-1,by omega⟩
    rw[show(2*j+2)/2-1=j from by omega,show 2*j+2=(2*j+1)+1 from rfl,List.getElem?_cons_succ]
    simp
noncomputable def ofF (l:List AV)(n:Nat):TF:=⟨Ss 20 l,(match Nat.ble (Nm l) n with|true=>n|false=>Nm l),[]⟩
theorem fF (l:List AV)(n:Nat):(ofF l n).len=max l.length n:=by
 unfold ofF
 simp only [Lj]
 cases hb:Nat.ble l.length n with
 | true=>have:=Nat.le_of_ble_eq_true hb;simp only;omega
 | false =>
  have:¬ l.length≤n:=fun h=>by rw[Nat.ble_eq_true_of_le h] at hb;cases hb
  simp only;omega
theorem lB {l:List AV}{n:Nat}(h:max l.length n≤Kr):(ofF l n).ok:=by unfold TF.ok;rw[fF];exact h
theorem fG {l:List AV}{n:Nat}(h:max l.length n≤Kr):(ofF l n).abs=⟨l++List.replicate (n-l.length) Bx,[]⟩:=by
 rw[←TF.oF h]
 unfold TF.abs
 rw[fF]
 show(⟨_,[]⟩:Fm)=⟨_,[]⟩
 congr 1
 refine List.map_congr_left fun i hi=>?_
 have hlt:i<max l.length n:=List.mem_range.1 hi
 show(Ss 20 l).get i=(Tr.fill 0 l .nil).get i
 rw[Qh 20 l i (by unfold Kr at h;omega),Tr.Uf l 0 .nil i (by omega)]
 by_cases hc:i<l.length
 ·rw[if_pos (by omega)];simp
 ·rw[if_neg (by omega),List.getD_eq_getElem?_getD,List.getElem?_eq_none (by omega)]
  simp[Tr.get]
noncomputable def ltV (n:Nat)(a:AV):Bool:=@AV.rec (fun _=>Bool) (fun _=>Bool) (fun _=>true) (fun i _=>Nat.blt i n) (fun i _ _ _ _=>Nat.blt i n) (fun i=>Nat.blt i n) (fun i=>Nat.blt i n) (fun _ _ _ h1 h2=>@Bool.rec (fun _=>Bool) false h2 h1) (fun _ h=>h) (fun _ h=>h) true (fun _ _ h1 h2=>@Bool.rec (fun _=>Bool) false h2 h1) a
noncomputable def ltL (n:Nat)(l:List AV):Bool:=Vn (ltV n) l
noncomputable def ltO (n:Nat)(o:AObj):Bool:=match o with
 | .cells none _ cs=>ltL n cs
 | .cells (some g) _ cs=>Nat.blt g n&&ltL n cs
 | .loop r=>Nat.blt r.dfid n&&ltL n r.tmps
 | .dfr=>true
 | .map es _=>es.all fun x=>ltV n x.1&&ltV n x.2.1
 | .iter mid _ _ _=>Nat.blt mid n
theorem Yi (a b:Bool) : @Bool.rec (fun _=>Bool) false b a=(a&&b):=by cases a<;>rfl
theorem Ps (n:Nat):∀ (l:List AV),@AV.rec_1 (fun _=>Bool) (fun _=>Bool) (fun _=>true) (fun i _=>Nat.blt i n) (fun i _ _ _ _=>Nat.blt i n) (fun i=>Nat.blt i n) (fun i=>Nat.blt i n) (fun _ _ _ h1 h2=>@Bool.rec (fun _=>Bool) false h2 h1) (fun _ h=>h) (fun _ h=>h) true (fun _ _ h1 h2=>@Bool.rec (fun _=>Bool) false h2 h1) l=l.all (ltV n)
 | []=>rfl
 | a::r=>by
  have ih:=Ps n r
  show @Bool.rec (fun _=>Bool) false (@AV.rec_1 (fun _=>Bool) (fun _=>Bool) _ _ _ _ _ _ _ _ _ _ r) (ltV n a)=_
  rw[ih,Yi,List.all_cons]
theorem Lc {n i:Nat}(h:Nat.blt i n=true):rho n [] i=some i:=by unfold rho;rw[if_pos h]
mutual
theorem Se {n:Nat}:∀ {a:AV},ltV n a=true→renV (rho n []) a=some a
 | .lit v,_=>rfl
 | .ptr i o,h=>by simp only [renV,Lc (show Nat.blt i n=true from h)]
 | .sl i a b c d,h=>by simp only [renV,Lc (show Nat.blt i n=true from h)]
 | .mp i,h=>by simp only [renV,Lc (show Nat.blt i n=true from h)]
 | .yld i,h=>by simp only [renV,Lc (show Nat.blt i n=true from h)]
 | .fn f a b,h=>by
  have h' : @Bool.rec (fun _=>Bool) false (@AV.rec_1 (fun _=>Bool) (fun _=>Bool) _ _ _ _ _ _ _ _ _ _ b) (@AV.rec_1 (fun _=>Bool) (fun _=>Bool) _ _ _ _ _ _ _ _ _ _ a)=true:=h
  rw[Yi,Ps,Ps,Bool.and_eq_true] at h'
  simp only [renV,Ji h'.1,Ji h'.2]
 | .agg a,h=>by
  have h' : @AV.rec_1 (fun _=>Bool) (fun _=>Bool) _ _ _ _ _ _ _ _ _ _ a=true:=h
  rw[Ps] at h'
  simp only [renV,Ji h']
 | .tup a,h=>by
  have h' : @AV.rec_1 (fun _=>Bool) (fun _=>Bool) _ _ _ _ _ _ _ _ _ _ a=true:=h
  rw[Ps] at h'
  simp only [renV,Ji h']
theorem Ji {n:Nat}:∀ {l:List AV},l.all (ltV n)=true→renL (rho n []) l=some l
 | [],_=>rfl
 | a::r,h=>by
  rw[List.all_cons,Bool.and_eq_true] at h
  simp only [renL,Se h.1,Ji h.2]
end
theorem Zh {n:Nat}:∀ {l:List (AV × AV × Nat)},(l.all fun x=>ltV n x.1&&ltV n x.2.1)=true→renEs (rho n []) l=some l
 | [],_=>rfl
 | (a,b,c)::r,h=>by
  rw[List.all_cons,Bool.and_eq_true,Bool.and_eq_true] at h
  simp only [renEs,Se h.1.1,Se h.1.2,Zh h.2]
theorem oY {n:Nat}{o:AObj}(h:ltO n o=true):renO (rho n []) o=some o:=by
 cases o with
 | cells fam ro cs =>
  cases fam with
  | none=>simp only [ltO,ltL,Ib] at h;simp only [renO,Ji h]
  | some g =>
   simp only [ltO,ltL,Ib,Bool.and_eq_true] at h
   simp only [renO,Lc h.1,Ji h.2]
 | loop r=>simp only [ltO,ltL,Ib,Bool.and_eq_true] at h;simp only [renO,Lc h.1,Ji h.2]
 | dfr=>rfl
 | map es c=>simp only [ltO] at h;simp only [renO,Zh h]
 | iter m a b c=>simp only [ltO] at h;simp only [renO,Lc h]
noncomputable def oldH (n:Nat)(h:Hp):Option Hp:=@List.rec (Nat × AObj) (fun _=>Option Hp) (some []) (fun x _ ih=>@Bool.rec (fun _=>Option Hp) ih (match ltO n x.2 with
 | true=>match ih with
  | some r=>some (x::r)
  | none=>none
 | false=>none) (Nat.blt x.1 n)) h
theorem Xi {n:Nat}:∀ {h h':Hp},oldH n h=some h'→renOld (rho n []) n h=some h'
 | [],h',hh=>hh
 | x::r,h',hh=>by
  have hh' : @Bool.rec (fun _=>Option Hp) (oldH n r) (match ltO n x.2 with
   | true=>match oldH n r with
    | some r=>some (x::r)
    | none=>none
   | false=>none) (Nat.blt x.1 n)=some h':=hh
  simp only [renOld]
  cases hb:Nat.blt x.1 n with
  | false=>rw[hb] at hh';exact Xi hh'
  | true =>
   rw[hb] at hh'
   simp only at hh'
   split at hh'
   ·rename_i ho
    split at hh'
    ·rename_i r' hr'
     cases hh'
     simp only [oY ho,Xi hr']
    ·cases hh'
   ·cases hh'
noncomputable def gc3 (D n0:Nat)(v:AV)(st:St):AV × St:=match Nat.ble st.n (n0+D) with
 | true=>(v,st)
 | false=>match ltV n0 v with
  | true=>match oldH n0 st.h with
   | some h=>(v,⟨h,n0⟩)
   | none=>canon n0 v st
  | false=>canon n0 v st
theorem Ca.ren {φ:Fi}{st:St}{w:World}{k:AV→St→Prop}{e:Ending}{w':World}(hn:φ.n=st.n){v v':AV}{cv:Value}{st':St}{φ':Fi}(he:e=.returned cv)(hv:VR φ' v cv)(hex:Ext φ φ')(hrel:Rel φ' st' w')(hfr:Fr φ st w φ' st' w')
  {ord:List Nat}{a b:Hp}(h1:ord.Nodup)(h2:∀ i∈ord,st.n≤i)(hv':renV (rho st.n ord) v=some v')(ha:renOld (rho st.n ord) st.n st'.h=some a)(hb:Gq (rho st.n ord) st'.h st.n ord=some b)(hk:k v' ⟨b++a,st.n+ord.length⟩):Ca φ st w k e w':=by
 obtain⟨h3,h4⟩:=Tf hrel h1 h2 ha hb
 refine⟨v',cv,_,phi st.n ord φ',he,hk,Pf (Xd st.n ord φ') hv' hv,⟨?_,fun id hid=>?_⟩,h3,⟨hfr.os,hfr.tape,hfr.output,hfr.size,hfr.block,fun k hk=>hfr.own k (h4 k hk)⟩⟩
 ·rw[hn];unfold phi;simp only;omega
 ·rw[Lh (by rw[←hn];exact hid)];exact hex.f id hid
theorem Ca.gc {φ:Fi}{st:St}{w:World}{k:AV→St→Prop}{e:Ending}{w':World}(D:Nat)(hn0:φ.n=st.n)(hp:Ca φ st w (fun v st'=>k (Ev.gc3 D st.n v st').1 (Ev.gc3 D st.n v st').2) e w'):Ca φ st w k e w':=by
 obtain⟨v,cv,st',φ',he,hk,hv,hex,hrel,hfr⟩:=hp
 have same:k v st'→Ca φ st w k e w':=fun hk=>⟨v,cv,st',φ',he,hk,hv,hex,hrel,hfr⟩
 have cano:k (Ev.canon st.n v st').1 (Ev.canon st.n v st').2→Ca φ st w k e w':=fun hk=>by
  unfold Ev.canon at hk
  split at hk
  ·exact same hk
  ·simp only at hk
   generalize reach st'.h st.n 4000 _ []=ord at hk
   split at hk
   ·exact same hk
   ·rename_i hc
    simp only [Bool.and_eq_true,decide_eq_true_eq,List.all_eq_true] at hc
    split at hk
    ·rename_i v' a b hv' ha hb
     exact Ca.ren hn0 he hv hex hrel hfr hc.1 (fun i hi=>Nat.le_of_ble_eq_true (hc.2 i hi)) hv' ha hb hk
    ·exact same hk
 unfold gc3 at hk
 split at hk
 ·exact same hk
 ·split at hk
  ·rename_i hlt
   split at hk
   ·rename_i h' hh'
    exact Ca.ren (ord:=[]) (b:=[]) hn0 he hv hex hrel hfr (by simp) (fun i hi=>by cases hi) (Se hlt) (Xi hh') rfl hk
   ·exact cano hk
  ·exact cano hk
noncomputable def xW (n:Nat)(o:AObj):Bool:=match o with
 | .cells none _ cs=>ltL n cs
 | .cells (some g) _ cs=>Nat.blt g n&&ltL n cs
 | .map es _=>Vn (fun x=>ltV n x.1&&ltV n x.2.1) es
 | _=>true
noncomputable def wO (n:Nat)(h:Hp):Bool:=@List.rec (Nat × AObj) (fun _=>Bool) true (fun x _ ih=>@Bool.rec (fun _=>Bool) ih (@Bool.rec (fun _=>Bool) false ih (xW n x.2)) (Nat.blt x.1 n)) h
noncomputable def pG (n:Nat)(h:Hp):Hp:=@List.rec (Nat × AObj) (fun _=>Hp) [] (fun x _ ih=>@Bool.rec (fun _=>Hp) ih (x::ih) (Nat.blt x.1 n)) h
theorem fE (n:Nat):∀ h:Hp,pG n h=h.filter fun x=>Nat.blt x.1 n
 | []=>rfl
 | x::r=>by
  show @Bool.rec (fun _=>Hp) (pG n r) (x::pG n r) (Nat.blt x.1 n)=_
  rw[fE n r,List.filter_cons]
  cases Nat.blt x.1 n<;>rfl
noncomputable def gc4 (D n0:Nat)(v:AV)(st:St):AV × St:=match Nat.ble st.n (n0+D) with
 | true=>(v,st)
 | false=>match ltV n0 v&&wO n0 st.h with
  | true=>(v,⟨pG n0 st.h,st.n⟩)
  | false=>match Nat.ble st.n (n0+8*D) with
   | true=>(v,st)
   | false=>canon n0 v st
theorem Ca.gc4 {φ:Fi}{st:St}{w:World}{k:AV→St→Prop}{e:Ending}{w':World}(D:Nat)(hn0:φ.n=st.n)(hp:Ca φ st w (fun v st'=>k (Ev.gc4 D st.n v st').1 (Ev.gc4 D st.n v st').2) e w'):Ca φ st w k e w':=by
 obtain⟨v,cv,st',φ',he,hk,hv,hex,hrel,hfr⟩:=hp
 have same:k v st'→Ca φ st w k e w':=fun hk=>⟨v,cv,st',φ',he,hk,hv,hex,hrel,hfr⟩
 have cano:k (Ev.canon st.n v st').1 (Ev.canon st.n v st').2→Ca φ st w k e w':=fun hk=>by
  unfold Ev.canon at hk
  split at hk
  ·exact same hk
  ·simp only at hk
   generalize reach st'.h st.n 4000 _ []=ord at hk
   split at hk
   ·exact same hk
   ·rename_i hc
    simp only [Bool.and_eq_true,decide_eq_true_eq,List.all_eq_true] at hc
    split at hk
    ·rename_i v' a b hv' ha hb
     exact Ca.ren hn0 he hv hex hrel hfr hc.1 (fun i hi=>Nat.le_of_ble_eq_true (hc.2 i hi)) hv' ha hb hk
    ·exact same hk
 unfold Ev.gc4 at hk
 split at hk
 ·exact same hk
 ·split at hk
  ·rw[fE] at hk
   exact⟨v,cv,st'.Gd fun i=>Nat.blt i st.n,φ',he,hk,hv,hex,hrel.Gd _,hfr.Gd _⟩
  ·split at hk
   ·exact same hk
   ·exact cano hk
noncomputable def iK (f:TF)(t:Nat):AV:=match Nat.blt t 1048575 with
 | true=>@Bool.rec (fun _=>AV) Bx (goP (pth t) f.t) (Nat.blt t f.len)
 | false=>f.at t
theorem fH (f:TF)(t:Nat):iK f t=f.at t:=by
 unfold iK
 cases hb:Nat.blt t 1048575 with
 | false=>rfl
 | true =>
  have ht:t<1048575:=Nat.le_of_ble_eq_true hb
  simp only [TF.at,pth]
  rw[Xs 20 f.t t (by omega)]
  cases Nat.blt t f.len<;>rfl
section
variable (T:Ti)
noncomputable def resOne3 (f:TF)(st:St)(r:ResultVar):Option AV:=match r with
 | .tmp t=>some (iK f t)
 | .cell a t=>match partK T t with
  | some (some n)=>pV st.h n (iK f a)
  | some none=>kLd1 st.h (iK f a)
  | none=>loadA T st.h t (iK f a)
noncomputable def resAll3 (f:TF)(st:St):List ResultVar→Option (List AV)
 | []=>some []
 | r::rs=>match resOne3 T f st r,resAll3 f st rs with
  | some v,some vs=>some (v::vs)
  | _,_=>none
noncomputable def resA3 (rs:Array ResultVar)(f:TF)(st:St):Option AV:=match rs.toList with
 | [r]=>resOne3 T f st r
 | l=>match resAll3 T f st l with
  | some [v]=>some v
  | some vs=>some (.tup vs)
  | none=>none
variable {T}
theorem Te (f:TF)(st:St)(r:ResultVar):resOne3 T f st r=resOne T f.abs st r:=by
 cases r with
 | tmp t=>simp only [resOne3,resOne,TF.oB,fH]
 | cell a t =>
  simp only [resOne3,resOne,TF.oB,fH]
  split
  ·rename_i n hp
   simp only [pV,loadA]
   cases f.at a with
   | ptr id off =>
    simp only [Qf]
    cases cellsAt st.h id with
    | none=>rfl
    | some cs=>simp only;rw[partK_eq hp]
   | _=>rfl
  ·rename_i hp
   simp only [kLd1,loadA]
   cases f.at a with
   | ptr id off =>
    simp only [Qf]
    cases cellsAt st.h id with
    | none=>rfl
    | some cs=>simp only;rw[partK_eq hp]
   | _=>rfl
  ·rfl
theorem Of (f:TF)(st:St):∀ rs:List ResultVar,resAll3 T f st rs=resAll T f.abs st rs
 | []=>rfl
 | r::rs=>by
  simp only [resAll3,resAll,Te,Of f st rs]
  rfl
theorem kU (rs:Array ResultVar)(f:TF)(st:St):resA3 T rs f st=resA T rs f.abs st:=by
 unfold resA3 resA
 cases hrs:rs.toList with
 | nil=>simp only [Of];rfl
 | cons r l =>
  cases l with
  | nil =>
   simp only [Te,resAll]
   cases resOne T f.abs st r<;>rfl
  | cons r' l'=>simp only [Of];rfl
end
noncomputable def Xa (ts:List AV)(l:List (Tmp × AV)):List AV:=@List.rec (Tmp × AV) (fun _=>List AV→List AV) (fun ts=>ts) (fun x _ ih ts=>ih (Yz ts x.1 x.2)) l ts
theorem Vw:∀ (l:List (Tmp × AV))(ts:List AV),Xa ts l=setPs ts l
 | [],ts=>by simp[Xa,setPs]
 | (t,a)::r,ts=>by
  show Xa (Yz ts t a) r=_
  rw[Vw r,Sb]
  simp[setPs]
end Go.Ev
namespace Go.Ev
def isNilSl:AV→Bool
 | .lit (.slice none 0 0)=>true
 | _=>false
theorem dJ {a:AV}(h:isNilSl a=true):a=.lit (.slice none 0 0):=by
 unfold isNilSl at h
 split at h
 ·rfl
 ·cases h
def xNil (T:Ti)(st:St)(ρ:Operand→AV)(o:Oper):Option (List (AV × St)) :=
 match o.op with
 | .binOp .eql t x y _=>match T t with
  | some i=>match i.desc with
   | .slice _=>if isNilSl (ρ y) then match ρ x with
     | .sl _ _ _ _ _=>some [(.lit (.bool false),st)]
     | .lit (.slice none 0 0)=>some [(.lit (.bool true),st)]
     | _=>none
    else none
   | _=>none
  | none=>none
 | _=>none
theorem oK {P:Program}{T:Ti}(hT:TOk P T):XOk P (xNil T):=by
 intro rd ops i f st o outs ho hw h
 unfold xNil at h
 split at h
 ·rename_i t x y yt hx
  split at h
  ·rename_i ti hti
   split at h
   ·rename_i e hd
    split at h
    ·rename_i hn
     have hu:=(hT t ti hti).und
     rw[hd] at hu
     have key:∀ (b:Bool)(φ:Fi)(w:World)(a:Act)(p:Option Addr)(l c:Nat),Cz φ f a→a.eval x=.slice p l c→p.isNone=b→(execOp a.eval o).run P w=.ok (.value (.bool b)) w:=fun b φ w a p l c ha hp hb=>by
      have hy:=Bm ha.ts y
      rw[dJ hn] at hy
      have hy:=hy.Au
      have h1:=run_equalIn_slice_nil (P:=P) (w:=w) 9999 t e p l c hu
      subst hb
      simp only [execOp,hx,hp,hy]
      simp[Sem.run_bind,eqGuard,Result.andThen,binOp,Op.equal,Op.maxDepth,h1]
     split at h
     ·rename_i id off len sz ex hxv
      cases h
      refine Ac.value ho hw (fun c hc=>by rw[hx] at hc;cases hc) (fun φ w a h2 h3=>?_) (.nil ⟨_,rfl,List.mem_singleton.2 rfl⟩)
      have hxx:=Bm h3.ts x
      rw[hxv] at hxx
      obtain⟨cap,hs,_⟩:=hxx.Dy
      exact⟨φ,w,_,.inl (key false φ w a _ _ _ h3 hs rfl),.lit _,h2,Ext.refl _,Fr.refl _ _ _⟩
     ·rename_i hxv
      cases h
      refine Ac.value ho hw (fun c hc=>by rw[hx] at hc;cases hc) (fun φ w a h2 h3=>?_) (.nil ⟨_,rfl,List.mem_singleton.2 rfl⟩)
      have hxx:=Bm h3.ts x
      rw[hxv] at hxx
      have hs:=hxx.Au
      exact⟨φ,w,_,.inl (key true φ w a none _ _ h3 hs rfl),.lit _,h2,Ext.refl _,Fr.refl _ _ _⟩
     ·cases h
    ·cases h
   ·cases h
  ·cases h
 ·cases h
end Go.Ev
namespace Go.Ev
def litK:AV→Option Value
 | .lit (.int k n)=>some (.int k n)
 | .lit (.bool b)=>some (.bool b)
 | _=>none
def valsK:List AV→Option (List Value)
 | []=>some []
 | a::r=>match litK a,valsK r with
  | some v,some vs=>some (v::vs)
  | _,_=>none
def valK:AV→Option Value
 | .agg cs=>match valsK cs with
  | some vs=>some (.agg vs.toArray)
  | none=>none
 | a=>litK a
theorem fN {φ:Fi}{a:AV}{u v:Value}(h:VR φ a u)(hv:litK a=some v):u=v:=by
 unfold litK at hv
 split at hv
 ·cases hv;exact h.Au
 ·cases hv;exact h.Au
 ·cases hv
theorem Yo {φ:Fi}:∀ {as:List AV}{us vs:List Value},VRL φ as us→valsK as=some vs→us=vs
 | _,_,vs,.nil,hv=>by simp only [valsK,Option.some.injEq] at hv;exact hv
 | _,_,vs,.cons h t,hv=>by
  simp only [valsK] at hv
  split at hv
  ·rename_i v vs' h1 h2
   cases hv
   rw[fN h h1,Yo t h2]
  ·cases hv
theorem Sa {φ:Fi}{a:AV}{u v:Value}(h:VR φ a u)(hv:valK a=some v):u=v:=by
 unfold valK at hv
 split at hv
 ·rename_i cs
  obtain⟨us,rfl,hl⟩:=h.Bz
  split at hv
  ·rename_i vs hvs
   cases hv
   rw[Yo hl hvs]
  ·cases hv
 ·exact fN h hv
section
variable {P:Program}{T:Ti}
theorem Ac.Jj {rd:Option Nat}{ops:Array Oper}{i:Nat}{f:Fm}{st:St}{o:Oper}{outs:List (AV × St)}(ho:ops[i]?=some o)(hw:Region.wanted o (yA ops f.ts)=true)(hd:∀ c,o.op≠.defer c)
  (hrun:∀ (φ:Fi)(w:World)(a:Act),Rel φ st w→Cz φ f a→∃ r st' φ' w' u,(r,st')∈outs∧((execOp a.eval o).run P w=.ok (.value u) w'∨((execOp a.eval o).run P w=.ok .skip w'∧u=undef))∧VR φ' r u∧Rel φ' st' w'∧Ext φ φ'∧Fr φ st w φ' st' w') :
  Ac P rd ops [i] (fun f' st'=>∃ v,f'=f.put o.dst v∧(v,st')∈outs) f st:=by
 intro φ w a n Q h1 h2 h3 hQ
 simp only [wpOpsIn,ho]
 rw[Gb h3,hw]
 simp only [if_true]
 refine⟨fun _ _=>trivial,?_⟩
 rw[semAt_eq hd]
 obtain⟨r,st',φ',w',u,hm,hr,hv,hrel,he,hf⟩:=hrun φ w a h2 h3
 have h4:Q .normal (a.put o.dst u) w':=hQ _ _ ⟨f.put o.dst r,st',φ',⟨r,rfl,hm⟩,he,hrel,(h3.mono he).put o.dst hv,hf⟩
 rcases hr with hr|⟨hr,rfl⟩
 ·rw[hr];exact h4
 ·rw[hr];exact h4
def idxs (k:AV):Nat→List (AV × AV × Nat)→List Nat
 | _,[]=>[]
 | i,x::r=>if avEq x.1 k then i::idxs k (i+1) r else idxs k (i+1) r
theorem Ud {k:AV}:∀ {l:List (AV × AV × Nat)}{i j:Nat},j∈idxs k i l→∃ x,l[j-i]?=some x∧i≤j∧avEq x.1 k=true
 | x::r,i,j,h=>by
  simp only [idxs] at h
  have rest:j∈idxs k (i+1) r→∃ y,(x::r)[j-i]?=some y∧i≤j∧avEq y.1 k=true:=fun h=>by
   obtain⟨y,h1,h2,h3⟩:=Ud h
   refine⟨y,?_,by omega,h3⟩
   have:j-i=(j-(i+1))+1:=by omega
   rw[this,List.getElem?_cons_succ];exact h1
  split at h
  ·rename_i he
   rcases List.mem_cons.1 h with rfl|h
   ·exact⟨x,by simp,Nat.le_refl _,he⟩
   ·exact rest h
  ·exact rest h
 | [],i,j,h=>by cases h
theorem Tv {k:AV}:∀ {l:List (AV × AV × Nat)}{i j:Nat}{x:AV × AV × Nat},l[j]?=some x→avEq x.1 k=true→i+j∈idxs k i l
 | y::r,i,0,x,h,he=>by
  simp only [List.getElem?_cons_zero,Option.some.injEq] at h
  subst h
  simp only [idxs,he,if_true,Nat.add_zero,List.mem_cons_self]
 | y::r,i,j+1,x,h,he=>by
  rw[List.getElem?_cons_succ] at h
  have:=Tv (i:=i+1) h he
  have e:i+(j+1)=i+1+j:=by omega
  rw[e]
  simp only [idxs]
  split
  ·exact List.mem_cons_of_mem _ this
  ·exact this
variable (P) in
def keyB (kt:TypeId)(a:AV):Bool:=match valK a with
 | some v=>(keyOf P kt v).isSome
 | none=>false
theorem fO {a b:AV}{v:Value}(h:litK a=some v)(k:litK b=some v):avEq a b=true:=by
 unfold litK at h k
 split at h
 ·split at k
  ·cases h;cases k;simp[avEq,litEq]
  ·cases h;cases k
  ·cases k
 ·split at k
  ·cases h;cases k
  ·cases h;cases k;simp[avEq,litEq]
  ·cases k
 ·cases h
theorem Yp:∀ {a b:List AV}{v:List Value},valsK a=some v→valsK b=some v→avsEq a b=true
 | [],[],_,_,_=>by simp[avsEq]
 | [],y::s,v,h,k=>by
  simp only [valsK,Option.some.injEq] at h
  subst h
  simp only [valsK] at k
  split at k<;>cases k
 | x::r,[],v,h,k=>by
  simp only [valsK,Option.some.injEq] at k
  subst k
  simp only [valsK] at h
  split at h<;>cases h
 | x::r,y::s,v,h,k=>by
  simp only [valsK] at h k
  split at h
  ·rename_i v1 vs1 h1 h2
   cases h
   split at k
   ·rename_i v2 vs2 k1 k2
    cases k
    simp[avsEq,fO h1 k1,Yp h2 k2]
   ·cases k
  ·cases h
theorem Zz {a:AV}{cs:Array Value}(h:litK a=some (.agg cs)):False:=by
 unfold litK at h
 split at h<;>cases h
theorem eJ {a b:AV}{v:Value}(h:valK a=some v)(k:valK b=some v):avEq a b=true:=by
 unfold valK at h k
 split at h
 ·split at h
  ·rename_i vs hvs
   cases h
   split at k
   ·split at k
    ·rename_i ws hws
     simp only [Option.some.injEq,Value.agg.injEq] at k
     have:ws=vs:=by have:=congrArg Array.toList k;simpa using this
     subst this
     simp[avEq,Yp hvs hws]
    ·cases k
   ·exact(Zz k).elim
  ·cases h
 ·split at k
  ·split at k
   ·cases k
    exact(Zz h).elim
   ·cases k
  ·exact fO h k
def esOf (st:St)(a:AV):Option (Nat × List (AV × AV × Nat) × Nat):=match a with
 | .mp id=>match st.h.get id with
  | some (.map es clock)=>some (id,es,clock)
  | _=>none
 | _=>none
theorem Ia {φ:Fi}{st:St}{w:World}{a:AV}{u:Value}{id clock:Nat}{es:List (AV × AV × Nat)}(hr:Rel φ st w)(ha:VR φ a u)(h:esOf st a=some (id,es,clock)) :
  u=.map (some (φ.f id).b)∧id<φ.n∧st.h.get id=some (.map es clock)∧∃ ces:Array MapEntry,w.heap[(φ.f id).b]?=some (.map ces clock)∧ces.size=es.length ∧
   ∀ (i:Nat)(x:AV × AV × Nat),es[i]?=some x→∃ e,ces[i]?=some e∧VR φ x.1 e.key∧VR φ x.2.1 e.val∧e.born=x.2.2:=by
 unfold esOf at h
 split at h
 ·rename_i id'
  split at h
  ·rename_i es' clock' ho
   cases h
   obtain⟨h1,h2⟩:=ha.Ml
   exact⟨h1,h2,ho,hr.obj _ _ ho⟩
  ·cases h
 ·cases h
def mapD (T:Ti)(t:TypeId):Option TypeId:=match T t with
 | some i=>match i.desc with
  | .map k _=>some k
  | _=>none
 | none=>none
theorem Pq (hT:TOk P T){t k:TypeId}(h:mapD T t=some k):∃ e,P.underlying t=some (.map k e):=by
 unfold mapD at h
 split at h
 ·rename_i i hi
  split at h
  ·rename_i k' e hd
   cases h
   exact⟨e,by rw[←hd];exact(hT t i hi).und⟩
  ·cases h
 ·cases h
theorem Gx {φ:Fi}{st:St}{w:World}(hr:Rel φ st w){id:Nat}{o o':AObj}(ho:st.h.get id=some o)(hown:o.own=true)(hfam:o.fam=none)(co:Obj)(w0:World)(hw0:w0=w∨w0=w.drew)(hobj:∀ w':World,w'.heap[(φ.f id).b]?=some co→Cx φ w' id o') :
  Rel φ ⟨st.h.set id o',st.n⟩ { w0 with heap:=w0.heap.setIfInBounds (φ.f id).b co}∧Fr φ st w φ ⟨st.h.set id o',st.n⟩ { w0 with heap:=w0.heap.setIfInBounds (φ.f id).b co}:=by
 have hb:=hr.blk id o ho
 have hh:w0.heap=w.heap:=by rcases hw0 with rfl|rfl<;>rfl
 have h1:w0.os=w.os∧w0.tape=w.tape∧w0.output=w.output:=by rcases hw0 with rfl|rfl<;>exact⟨rfl,rfl,rfl⟩
 refine hr.Sq ho hown hfam h1.1 h1.2.1 h1.2.2 (by simp[hh]) (fun k hk=>?_) (hobj _ ?_)
 ·simp only [hh];rw[Array.getElem?_setIfInBounds_ne (Ne.symm hk)]
 ·simp only [hh];simp[hb]
end
end Go.Ev
