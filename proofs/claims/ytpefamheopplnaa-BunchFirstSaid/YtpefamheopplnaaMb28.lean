/- Own work of the verifier of watercress: FzE1, FzE6, FzB2, FzB3, FzB4, FzB5. -/
import Derived.Test.YtpefamheopplnaaMb23
import Derived.Deep.Slices
import Derived.Lib.SmallJoins
import Derived.WideKeyArgs
import Derived.WalkKit
import Derived.ProofKit
import Derived.OpenShut
import Derived.JoinedCond
import Derived.Below
import Derived.ChangeSame
import Derived.CallsIn
import Derived.Carry
import Derived.Test.YtpefamheopplnaaRows
import Derived.Test.YtpefamheopplnaaMb19
import Derived.Test.YtpefamheopplnaaMb27
set_option linter.unusedVariables false
set_option linter.unusedSimpArgs false
namespace Go.Fz
open Go.ChangeShapes Go.WideShapes Go.Deep Go.Joins
def flatFs (P:Program)(rec:TypeId→Option (List Bool)):List Field→Nat→Option (List Bool)
  | [],_=>some []
  | f::fs,off=>match rec f.type,flatFs P rec fs (off+P.cellsOf f.type) with
    | some ks,some ls=>if f.offset=off∧ks.length=P.cellsOf f.type then some (ks++ls) else none
    | _,_=>none
def flatK (P:Program):Nat→TypeId→Option (List Bool)
  | 0,_=>none
  | d+1,t=>match P.underlying t with
    | some (.int .i64)=>some [true]
    | some .bool=>some [false]
    | some (.struct fs)=>flatFs P (flatK P d) fs.toList 0
    | _=>none
def kindOk:Bool→Value→Prop
  | true,v=>∃ n,v=.int .i64 n∧(Lit.int .i64 n).wf=true
  | false,v=>∃ b,v=.bool b
section
variable {H:Type}{enc:TypeId × Value→H}{P:Program}{w:World}{base:Nat}{spare:Nat→Bool}{held:Bool}
theorem qnq {rec:TypeId→Option (List Bool)}{n:Nat}{cs:List Value}(hrec:∀ (t:TypeId)(ks:List Bool)(cs:List Value)(x:DataW H × List MemPlace),rec t=some ks→DataW.trod enc P w base spare held n t cs=some x→∀ (j:Nat)(k:Bool),ks[j]?=some k→∃ v,cs[j]?=some v∧kindOk k v) :
    ∀ (fs:List Field)(off:Nat)(ks:List Bool),flatFs P rec fs off=some ks→(∀ f∈fs,∃ x,DataW.trod enc P w base spare held n f.type ((cs.drop f.offset).take (P.cellsOf f.type))=some x) →
      ∀ (j:Nat)(k:Bool),ks[j]?=some k→∃ v,cs[off+j]?=some v∧kindOk k v
  | [],off,ks,h,_,j,k,hj=>by
    cases h
    simp at hj
  | f::fs,off,ks,h,hx,j,k,hj=>by
    unfold flatFs at h
    split at h
    · rename_i k1 k2 h1 h2
      split at h
      · rename_i hc
        cases h
        obtain⟨ho,hl⟩:=hc
        by_cases hjl:j<k1.length
        · rw[List.getElem?_append_left hjl] at hj
          obtain⟨x,hx1⟩:=hx f List.mem_cons_self
          obtain⟨v,hv,hk⟩:=hrec f.type k1 _ x h1 hx1 j k hj
          refine⟨v,?_,hk⟩
          rw[List.getElem?_take,List.getElem?_drop,ho] at hv
          split at hv
          · exact hv
          · cases hv
        · rw[List.getElem?_append_right (by omega)] at hj
          obtain⟨v,hv,hk⟩:=qnq hrec fs (off+P.cellsOf f.type) k2 h2 (fun g hg=>hx g (List.mem_cons_of_mem _ hg)) (j - k1.length) k hj
          exact⟨v,by rw[←hv];congr 1;omega,hk⟩
      · cases h
    · cases h
theorem qqw:∀ (d:Nat)(n:Nat)(t:TypeId)(ks:List Bool)(cs:List Value)(x:DataW H × List MemPlace),flatK P d t=some ks→DataW.trod enc P w base spare held n t cs=some x→∀ (j:Nat)(k:Bool),ks[j]?=some k→∃ v,cs[j]?=some v∧kindOk k v
  | 0,_,_,_,_,_,h,_,_,_,_=>by cases h
  | d+1,n,t,ks,cs,x,h,ht,j,k,hj=>by
    unfold flatK at h
    split at h
    · rename_i hu
      cases h
      obtain⟨z,rfl,_,hw⟩:=DataW.trod_int hu ht
      match j,hj with
      | 0,hj=>cases hj;exact⟨_,rfl,z,rfl,hw⟩
    · rename_i hu
      cases h
      obtain⟨b,rfl,_⟩:=DataW.trod_bool hu ht
      match j,hj with
      | 0,hj=>cases hj;exact⟨_,rfl,b,rfl⟩
    · rename_i fs hu
      obtain⟨xs,m,rfl,_,_,hlen,hf⟩:=DataW.trod_struct hu ht
      have:=qnq (cs:=cs) (fun t ks cs x h1 h2=>qqw d m t ks cs x h1 h2) fs.toList 0 ks h (fun f hfm=>by
        obtain⟨i,hi,he⟩:=List.getElem_of_mem hfm
        have h1:=hf i f (by rw[←Array.getElem?_toList,List.getElem?_eq_getElem hi,he])
        rw[Array.length_toList] at hi
        rw[List.getElem?_eq_getElem (by omega)] at h1
        exact⟨_,h1⟩) j k hj
      simpa using this
    · cases h
def qsc (w:World)(a:Addr)(j:Nat):Int:=match w.cell? ⟨a.block,a.off+j,none⟩ with
  | some (.int _ n)=>n
  | _=>0
def decB (w:World)(a:Addr)(j:Nat):Bool:=match w.cell? ⟨a.block,a.off+j,none⟩ with
  | some (.bool b)=>b
  | _=>false
def slAddr:Value→Addr
  | .slice (some a) _ _=>a
  | _=>⟨0,0,none⟩
def slCount:Value→Nat
  | .slice _ n _=>n
  | _=>0
def zW (w:World)(b:Nat):Option (Nat→Option Value):=match w.heap[b]? with
  | some (.cells c _ _)=>some fun i=>c[i]?
  | _=>none
theorem qsf {b:Nat}{c:Nat→Option Value}(h:zW w b=some c)(i:Nat):c i=w.cell? ⟨b,i,none⟩:=by
  unfold zW at h
  split at h
  · rename_i hb
    cases h
    simp[World.cell?,hb]
  · cases h
def fiW (w:World):Fi:=⟨fun _=>⟨0,0,0⟩,0,zW w⟩
theorem relW (w:World):Rel (fiW w) ⟨[],0⟩ w:=by
  refine⟨rfl,fun _ _ h=>by simp[Hp.get] at h,fun _ _ h=>by simp[Hp.get] at h,fun _ _ h=>by simp[Hp.get] at h,fun _ _ _ _ h=>by simp[Hp.get] at h,fun _ _ _ h=>by simp[Hp.get] at h,fun b c hb=>⟨?_,fun i v hv=>?_,fun _ _ h=>by simp[Hp.get] at h⟩⟩
  · have hb':zW w b=some c:=hb
    unfold zW at hb'
    split at hb'
    · rename_i hh
      exact(Array.getElem?_eq_some_iff.1 hh).1
    · cases hb'
  · rw[←qsf (w:=w) hb i];exact hv
theorem qn8 {t e:TypeId}{n d:Nat}{ks:List Bool}{v:Value}{x:DataW H × List MemPlace}{r:Reach}{b0:Nat}(ht:P.underlying t=some (.slice e))(hk:flatK P d e=some ks)(hc:P.cellsOf e=ks.length)
    (hok:Cell.okWide P w r b0 t v)(h:DataW.trod enc P w base spare held n t [v]=some x) :
    v=.slice none 0 0∨∃ a cap c,v=.slice (some a) (slCount v) cap∧slCount v≤cap∧a.spot=none∧zW w a.block=some c ∧
      ∀ i j k,i<slCount v→ks[j]?=some k→∃ u,w.cell? ⟨a.block,a.off+(i*ks.length+j),none⟩=some u∧kindOk k u:=by
  rcases open_slice ht h with ⟨h0,_⟩ | ⟨a,len,cap,m,n',D,Pl,hcs,_,hl,_,hm,_,hi⟩
  · left;simpa using h0
  · right
    have hv:v=.slice (some a) len cap:=by simpa using hcs
    subst hv
    have hok':w.has P r b0 a e cap:=by
      unfold Cell.okWide at hok
      rw[ht] at hok
      unfold Cell.ok at hok
      rw[ht] at hok
      exact hok.2.2
    obtain⟨_,hs,row,cells,hsh,_⟩:=hok'
    refine⟨a,cap,?_⟩
    have hz:∃ c,zW w a.block=some c:=by
      unfold World.shape? at hsh
      split at hsh
      · rename_i c t' z hb
        exact⟨fun i=>c[i]?,by unfold zW;rw[hb]⟩
      · rename_i hh
        cases hsh
    obtain⟨c,hz⟩:=hz
    refine⟨c,rfl,hl,hs,hz,fun i j k hil hj=>?_⟩
    have him:i<m:=by
      rw[hm];simp only [slCount] at hil;split <;> omega
    obtain⟨cs',hcells,htr⟩:=hi i him
    obtain⟨u,hu,hko⟩:=qqw d n' e ks cs' (D i,Pl i) hk htr j k hj
    refine⟨u,?_,hko⟩
    obtain⟨_,hlen,hat⟩:=World.cells?_some hcells
    have hjl:j<ks.length:=(List.getElem?_eq_some_iff.1 hj).1
    have h1:=hat j (by rw[hc];exact hjl)
    rw[hu,hc] at h1
    rw[←h1]
    congr 1
    unfold Addr.add
    obtain⟨ab,ao,asp⟩:=a
    simp only at hs
    subst hs
    by_cases h2:i*ks.length=0
    · by_cases h3:j=0
      · simp[h2,h3]
      · simp[h2,h3]
    · by_cases h3:j=0
      · simp[h2,h3]
      · simp[h2,h3];omega
theorem qjh {t e:TypeId}{n d:Nat}{ks:List Bool}{v:Value}{x:DataW H × List MemPlace}{r:Reach}{b0:Nat}(ht:P.underlying t=some (.slice e))(hk:flatK P d e=some ks)(hc:P.cellsOf e=ks.length)
    (hok:Cell.okWide P w r b0 t v)(h:DataW.trod enc P w base spare held n t [v]=some x){g:Nat→Nat→AV}
    (hg:∀ i j k,ks[j]?=some k→g i j=if k then .lit (.int .i64 (qsc w (slAddr v) (i*ks.length+j))) else .sb (decB w (slAddr v) (i*ks.length+j))) :
    VR (fiW w) (.isl (slCount v) ks.length false g) v:=by
  rcases qn8 ht hk hc hok h with rfl | ⟨a,cap,c,hv,hl,hs,hz,hcell⟩
  · exact .isl0 _ _ _
  · generalize hN:slCount v=N at *
    subst hv
    obtain⟨ab,ao,asp⟩:=a
    simp only at hs
    subst hs
    refine .isl N ks.length false g ab ao cap c (fun i k=>(w.cell? ⟨ab,ao+(i*ks.length+k),none⟩).getD undef) hz (fun i k hi hk'=>?_) (fun i k hi hk'=>?_) hl (fun h=>by cases h)
    · obtain⟨u,hu,_⟩:=hcell i k ks[k] hi (List.getElem?_eq_getElem hk')
      rw[qsf (w:=w) hz,show ao+i*ks.length+k=ao+(i*ks.length+k) by omega]
      simp only at hu
      rw[hu];rfl
    · obtain⟨u,hu,hko⟩:=hcell i k ks[k] hi (List.getElem?_eq_getElem hk')
      simp only at hu
      rw[hu]
      rw[hg i k ks[k] (List.getElem?_eq_getElem hk')]
      cases hkk:ks[k] with
      | true =>
        rw[hkk] at hko
        obtain⟨z,rfl,_⟩:=hko
        have:qsc w (slAddr (.slice (some ⟨ab,ao,none⟩) N cap)) (i*ks.length+k)=z:=by
          simp[qsc,slAddr,hu]
        simp only [if_true,Option.getD_some]
        rw[this];exact .lit _
      | false =>
        rw[hkk] at hko
        obtain⟨z,rfl⟩:=hko
        have:decB w (slAddr (.slice (some ⟨ab,ao,none⟩) N cap)) (i*ks.length+k)=z:=by
          simp[decB,slAddr,hu]
        simp only [Bool.false_eq_true,if_false,Option.getD_some]
        rw[this];exact .sb _
end
end Go.Fz
namespace Go.Proofs.Ytpefamheopplnaa
open Go.ChangeShapes Go.WideShapes Go.ChangeAt Go.RowKit Go.Joins
set_option linter.unusedVariables false
set_option maxRecDepth 100000
theorem post_of_below {H:Type}{enc:TypeId × Value→H}{P:Program}{f:Func}{s:ChangeSpec}{apart fresh handsOn again:Bool}{W W':World}{args:Array Value}{v:Value}{ds gs:List (DataW H)}{before pa pv:List MemPlace}
    (hW:DataW.Whole enc P f.params.toList s.vars apart W args.toList ds gs before)
    (hres:∀ (b:Nat)(sp:Nat→Bool)(hd:Bool),DataW.TrodAll enc P W' b sp hd f.resultTypes.toList (v.resultList f.resultTypes.size) (s.fn H (ds++gs)).results [])
    (hargs:∀ sp:Nat→Bool,(∀ p∈before,sp p.block=true)→DataW.TrodAll enc P W' 0 sp true f.params.toList args.toList (s.fn H (ds++gs)).args pa)
    (hvars:∀ sp:Nat→Bool,(∀ p∈before,sp p.block=true)→DataW.TrodVars enc P W' sp s.vars (s.fn H (ds++gs)).vars pv)
    (hps:before=pa++pv)(hb:Below W.heap.size W W')
    (hok:∀ (j:Nat)(t:TypeId)(r:Value),f.resultTypes[j]?=some t→(v.resultList f.resultTypes.size)[j]?=some r→Value.okWide P W' .any 0 t r) :
    s.post enc P f apart fresh handsOn again W args v W':=by
  have hlt:∀ p∈before,p.block<W.heap.size:=fun p hp=>hW.lt p hp
  have hold:∀ p∈before,(fun b=>decide (b<W.heap.size)) p.block=true:=fun p hp=>by simpa using hlt p hp
  refine⟨ds,gs,before,[],pa,pv,hW,hres _ _ _,hargs _ hold,hvars _ hold,World.keptBut_mono (fun p hp=>⟨hp,?_⟩) (hb.frame (·∈before)),fun _=>?_⟩
  · rw[hps,List.mem_append] at hp
    exact Or.inr hp
  · obtain⟨_,_,_,_,_,hz,hn⟩:=hW
    refine⟨hok,_,_,([]++pa)++pv,⟨[]++pa,pv,trodAll_append (hargs _ (fun _ _=>rfl)) (hres _ _ _),hvars _ (fun _ _=>rfl),rfl,?_,?_⟩,?_⟩
    · intro b off hp
      have hin:MemPlace.cell b off∈before:=by rw[hps];simpa using hp
      rw[hb.frozen (hlt _ hin)]
      exact hz b off hin
    · intro ha
      have:=hn ha
      rw[hps] at this
      simpa using this
    · intro p hp _
      rw[hps]
      simpa using hp
theorem pure_of_ev {P:Program}{g:FuncId}(he:Ev.Enters P g)(h:∀ st,Ev.qax P g [] st (fun v st'=>v=.lit (.bool true)∧st'=st)):Fz.Pure P g [] (.lit (.bool true)):=by
  refine⟨he,fun st φ w cargs n hrel hargs=>?_⟩
  cases hargs
  have hr0:Ev.Rel ⟨fun _=>⟨0,0,0⟩,0⟩ ⟨[],0⟩ w:=⟨rfl,fun _ _ h=>by simp[Ev.Hp.get] at h,fun _ _ h=>by simp[Ev.Hp.get] at h,fun _ _ h=>by simp[Ev.Hp.get] at h,fun _ _ _ _ h=>by simp[Ev.Hp.get] at h⟩
  refine(h ⟨[],0⟩ ⟨fun _=>⟨0,0,0⟩,0⟩ w [] n hr0 .nil).mono fun e W' hp=>?_
  obtain⟨v,cv,st',φ',rfl,⟨rfl,rfl⟩,hv,_,_,hf⟩:=hp
  obtain rfl:=hv.qao
  have hblk:∀ k,k<w.heap.size→W'.heap[k]?=w.heap[k]?:=fun k hk=>hf.block k hk fun⟨id,o,h,_⟩=>by simp[Ev.Hp.get] at h
  refine⟨.lit (.bool true),.bool true,st,φ,rfl,⟨rfl,rfl⟩,.lit _,Fz.Ext.refl _,?_,⟨hf.os,hf.tape,hf.output,hf.size,fun k hk _=>hblk k hk,fun k hk=>.inl hk,fun b c hb=>.inl hb⟩⟩
  refine⟨hrel.n,hrel.lt,fun id o h=>Nat.lt_of_lt_of_le (hrel.blk id o h) hf.size,fun id o h=>(hrel.obj id o h).same (Fz.Ext.refl _) (by rw[hrel.n];exact hrel.lt id o h) (hblk _ (hrel.blk id o h)),hrel.sep,hrel.fam,fun b c hb=>?_⟩
  obtain⟨h1,h2,h3⟩:=hrel.qdk b c hb
  refine⟨Nat.lt_of_lt_of_le h1 hf.size,fun i v hv=>?_,h3⟩
  rw[←h2 i v hv]
  exact World.cell?_of_block (hblk b h1)
theorem awake_pure:Fz.Pure Try.prog 17 [] (.lit (.bool true)):=pure_of_ev Ev.c8_ok.1 Ev.c8_ok.2
theorem own:ownKnob Try.prog.godebug=none:=by kernel_rfl
theorem laid:laidOutB Try.prog=true:=by kernel_rfl
noncomputable def dayOf (W:World)(z0 z1:Int)(v2 v3 v4:Value):Fz.qai where
  hand:=z0
  flat:=z1
  nw:=Fz.slCount v2
  wlo:=fun i=>Fz.qsc W (Fz.slAddr v2) (i*2+0)
  whi:=fun i=>Fz.qsc W (Fz.slAddr v2) (i*2+1)
  nl:=Fz.slCount v3
  lw:=fun i=>Fz.qsc W (Fz.slAddr v3) (i*3+0)
  llo:=fun i=>Fz.qsc W (Fz.slAddr v3) (i*3+1)
  lhi:=fun i=>Fz.qsc W (Fz.slAddr v3) (i*3+2)
  nc:=Fz.slCount v4
  ck:=fun i=>Fz.qsc W (Fz.slAddr v4) (i*4+0)
  cw:=fun i=>Fz.qsc W (Fz.slAddr v4) (i*4+1)
  clo:=fun i=>Fz.qsc W (Fz.slAddr v4) (i*4+2)
  chi:=fun i=>Fz.qsc W (Fz.slAddr v4) (i*4+3)
theorem day_parts {H:Type}{enc:TypeId × Value→H}{W:World}{base b0:Nat}{spare:Nat→Bool}{held:Bool}{v:Value}{d:DataW H}{p:List MemPlace}
    (hv:Value.okWide Try.prog W .any b0 26 v)(h:DataW.Trod enc Try.prog W base spare held 26 v d p) :
    ∃ (z0 z1:Int)(v2 v3 v4:Value)(y2 y3 y4:DataW H × List MemPlace)(n:Nat),v=.agg #[.int .i64 z0,.int .i64 z1,v2,v3,v4] ∧
      DataW.trod enc Try.prog W base spare held n 22 [v2]=some y2∧DataW.trod enc Try.prog W base spare held n 23 [v3]=some y3∧DataW.trod enc Try.prog W base spare held n 24 [v4]=some y4:=by
  obtain⟨cs,rfl,hsz⟩:=okWide_struct Try.underlying26 hv
  have hC:Try.prog.cellsOf 26=5:=by kernel_rfl
  have c3:Try.prog.cellsOf 3=1:=by kernel_rfl
  have c22:Try.prog.cellsOf 22=1:=by kernel_rfl
  have c23:Try.prog.cellsOf 23=1:=by kernel_rfl
  have c24:Try.prog.cellsOf 24=1:=by kernel_rfl
  rw[hC] at hsz
  obtain⟨l⟩:=cs
  match l,hsz with
  | [u0,u1,u2,u3,u4],_ =>
    obtain⟨fuel,hf⟩:=h
    obtain⟨xs,n,_,_,_,hlen,hx⟩:=DataW.trod_struct Try.underlying26 hf
    match xs,hlen with
    | [y0,y1,y2,y3,y4],_ =>
      have h0:DataW.trod enc Try.prog W base spare held n 3 [u0]=some y0:=by simpa[Value.cells,c3] using hx 0 _ rfl
      have h1:DataW.trod enc Try.prog W base spare held n 3 [u1]=some y1:=by simpa[Value.cells,c3] using hx 1 _ rfl
      have h2:DataW.trod enc Try.prog W base spare held n 22 [u2]=some y2:=by simpa[Value.cells,c22] using hx 2 _ rfl
      have h3:DataW.trod enc Try.prog W base spare held n 23 [u3]=some y3:=by simpa[Value.cells,c23] using hx 3 _ rfl
      have h4:DataW.trod enc Try.prog W base spare held n 24 [u4]=some y4:=by simpa[Value.cells,c24] using hx 4 _ rfl
      obtain⟨z0,e0,_,_⟩:=DataW.trod_int Try.underlying3 h0
      obtain⟨z1,e1,_,_⟩:=DataW.trod_int Try.underlying3 h1
      obtain rfl:u0=.int .i64 z0:=by simpa using e0
      obtain rfl:u1=.int .i64 z1:=by simpa using e1
      exact⟨z0,z1,u2,u3,u4,y2,y3,y4,n,rfl,h2,h3,h4⟩
theorem day_read {H:Type}{enc:TypeId × Value→H}{W:World}{base b0:Nat}{spare:Nat→Bool}{held:Bool}{v:Value}{d:DataW H}{p:List MemPlace}
    (hv:Value.okWide Try.prog W .any b0 26 v)(h:DataW.Trod enc Try.prog W base spare held 26 v d p):∃ f:Fz.qai,Fz.VR (Fz.fiW W) (Fz.qdp f) v:=by
  obtain⟨z0,z1,v2,v3,v4,y2,y3,y4,n,rfl,h2,h3,h4⟩:=day_parts hv h
  have hct:Try.prog.cellTypes Try.prog.depth 26=some [3,3,22,23,24]:=by kernel_rfl
  unfold Value.okWide at hv
  rw[Try.underlying26] at hv
  obtain⟨cs,hcs,_,ts,hts,_,hok⟩:=hv
  cases hcs
  rw[hct] at hts
  cases hts
  have hk:∀ (i:Nat)(u:Value)(t:TypeId),#[Value.int .i64 z0,.int .i64 z1,v2,v3,v4][i]?=some u→[3,3,22,23,24][i % 5]?=some t→Cell.okWide Try.prog W .any b0 t u:=fun i u t hu ht=>by
    obtain⟨t',ht',ho⟩:=hok i u hu
    rw[show([3,3,22,23,24]:List TypeId).length=5 from rfl,ht] at ht'
    cases ht';exact ho
  refine⟨dayOf W z0 z1 v2 v3 v4,?_⟩
  refine .agg (.cons (.lit _) (.cons (.lit _) (.cons (Fz.qjh (d:=5) (ks:=[true,true]) Try.underlying22 (by kernel_rfl) (by kernel_rfl) (hk 2 v2 22 rfl rfl) h2 fun i j k hj=>?_)
    (.cons (Fz.qjh (d:=5) (ks:=[true,true,true]) Try.underlying23 (by kernel_rfl) (by kernel_rfl) (hk 3 v3 23 rfl rfl) h3 fun i j k hj=>?_)
    (.cons (Fz.qjh (d:=5) (ks:=[true,true,true,true]) Try.underlying24 (by kernel_rfl) (by kernel_rfl) (hk 4 v4 24 rfl rfl) h4 fun i j k hj=>?_) .nil)))))
  · match j,hj with
    | 0,hj=>cases hj;rfl
    | 1,hj=>cases hj;rfl
  · match j,hj with
    | 0,hj=>cases hj;rfl
    | 1,hj=>cases hj;rfl
    | 2,hj=>cases hj;rfl
  · match j,hj with
    | 0,hj=>cases hj;rfl
    | 1,hj=>cases hj;rfl
    | 2,hj=>cases hj;rfl
    | 3,hj=>cases hj;rfl
end Go.Proofs.Ytpefamheopplnaa
namespace Go.Fz
open Go.Proofs
set_option maxRecDepth 100000
theorem qvc (d:qai)(g0:FuncId) (first caps:List AV)(p:Nat→Bool)(hb:Below 0 (.fn (.func g0) first caps))(hn:d.nw<4611686018427387904)(hp:∀ i,i<d.nw→Pure Try.prog g0 (first++[iV i,womV d i]++caps) (.sb (p i))) :
    Pure Try.prog 114 [qcv d,.fn (.func g0) first caps] (.sb (qdz d.nw p)):=by
  obtain⟨O,hO⟩:∃ O:Ar,O=std:=⟨_,rfl⟩
  have hnat:∀ i:Nat,O.nat (Int.ofNat i)=i:=fun i=>by subst hO;rfl
  refine qad tok 3 Try.func114 en114 rfl ⟨qau d,hb,trivial⟩ Below.sb ?_
  refine SW.qab tok hO (by cbv <;> rfl) (by trivial) ?_
  refine SW.seq ?_
  refine SW.qab tok hO (by cbv <;> rfl) (by trivial) ?_
  refine(SW.block (SW.qhk (fun i:Nat=>⟨⟨20,getT [(1,.fn (.func g0) first caps),(7,qcv d),(8,iV d.nw),(9,iV i)]⟩,[]⟩) (fun _=>⟨[],0⟩) (fun i=>d.nw - i) (fun i=>i≤d.nw∧∀ j,j<i→p j=true) 0
    (fun _=>rfl) ⟨Nat.zero_le _,fun j hj=>absurd hj (Nat.not_lt_zero j)⟩ (qdt.by rfl rfl (by simp) (Nat.le_refl _) (Nat.le_refl _) ⟨⟨rfl,.inl rfl⟩,⟨rfl,.inl rfl⟩,⟨rfl,.inl rfl⟩,⟨rfl,.inl rfl⟩,trivial⟩ trivial) fun i ⟨hi,hall⟩=>?_))
  refine SW.qab tok hO (by cbv <;> rfl) (by trivial) ?_
  refine SW.seq (SW.qa6 (by cbv <;> rfl) (fun h=>SW.skip ?_) (fun h=>SW.exit ?_))
  · have hlt:i<d.nw:=by subst hO;simpa[std] using h
    refine SW.seq (SW.block ?_)
    refine SW.qab tok hO (by cbv <;> rfl) ?_ ?_
    · exact⟨Int.natCast_nonneg i,Int.ofNat_lt.2 hlt⟩
    refine SW.qab tok hO (by cbv <;> rfl) (by trivial) ?_
    refine qac.qdv (e:=p i) (args:=first++[iV (Int.ofNat i),.agg [iV (d.wlo (O.nat (Int.ofNat i))),iV (d.whi (O.nat (Int.ofNat i)))]]++caps) (by rw[hnat];exact hp i hlt) (by cbv <;> rfl) fun b hb'=>?_
    refine qac.run tok hO (by cbv <;> rfl) (by trivial) ?_
    refine SW.qa6 (by cbv <;> rfl) (fun h'=>?_) (fun h'=>SW.skip ?_)
    · refine SW.qab tok hO (by cbv <;> rfl) (by trivial) ?_
      refine SW.ret ⟨_,_,rfl,rfl,Eqv.bool (Bool.eq_iff_iff.2 ?_)⟩
      subst hO
      simp[std,hb'] at h'
      simp only [Bool.false_eq_true,qdz,decide_eq_true_eq,false_iff]
      intro hq
      rw[hq i hlt] at h'
      cases h'
    · refine SW.run tok hO (by cbv <;> rfl) (by trivial) ?_
      refine⟨i+1,by omega,⟨by omega,fun j hj=>?_⟩,qdt.by rfl rfl (by simp) (Nat.le_refl _) (Nat.zero_le _) ⟨⟨rfl,.inr hb⟩,⟨rfl,.inr (qau d)⟩,⟨rfl,.inr qbe⟩,⟨qci hO (by omega),.inr qbe⟩,trivial⟩ trivial⟩
      rcases Nat.lt_succ_iff_lt_or_eq.1 hj with hj | rfl
      · exact hall j hj
      · subst hO;simp[std,hb'] at h';exact h'
  · refine SW.qab tok hO (by cbv <;> rfl) (by trivial) ?_
    refine SW.ret ⟨_,_,rfl,rfl,Eqv.bool (Bool.eq_iff_iff.2 ?_)⟩
    have hge:d.nw≤i:=by subst hO;simpa[std] using h
    simp only [qdz,decide_eq_true_eq,true_iff]
    exact fun j hj=>hall j (by omega)
theorem qvb (d:qai)(g0:FuncId) (first caps:List AV)(p:Nat→Bool)(hb:Below 0 (.fn (.func g0) first caps))(hn:d.nl<4611686018427387904)(hp:∀ i,i<d.nl→Pure Try.prog g0 (first++[iV i,lotV d i]++caps) (.sb (p i))) :
    Pure Try.prog 116 [qdg d,.fn (.func g0) first caps] (.sb (qdz d.nl p)):=by
  obtain⟨O,hO⟩:∃ O:Ar,O=std:=⟨_,rfl⟩
  have hnat:∀ i:Nat,O.nat (Int.ofNat i)=i:=fun i=>by subst hO;rfl
  refine qad tok 3 Try.func116 en116 rfl ⟨qa0 d,hb,trivial⟩ Below.sb ?_
  refine SW.qab tok hO (by cbv <;> rfl) (by trivial) ?_
  refine SW.seq ?_
  refine SW.qab tok hO (by cbv <;> rfl) (by trivial) ?_
  refine(SW.block (SW.qhk (fun i:Nat=>⟨⟨20,getT [(1,.fn (.func g0) first caps),(7,qdg d),(8,iV d.nl),(9,iV i)]⟩,[]⟩) (fun _=>⟨[],0⟩) (fun i=>d.nl - i) (fun i=>i≤d.nl∧∀ j,j<i→p j=true) 0
    (fun _=>rfl) ⟨Nat.zero_le _,fun j hj=>absurd hj (Nat.not_lt_zero j)⟩ (qdt.by rfl rfl (by simp) (Nat.le_refl _) (Nat.le_refl _) ⟨⟨rfl,.inl rfl⟩,⟨rfl,.inl rfl⟩,⟨rfl,.inl rfl⟩,⟨rfl,.inl rfl⟩,trivial⟩ trivial) fun i ⟨hi,hall⟩=>?_))
  refine SW.qab tok hO (by cbv <;> rfl) (by trivial) ?_
  refine SW.seq (SW.qa6 (by cbv <;> rfl) (fun h=>SW.skip ?_) (fun h=>SW.exit ?_))
  · have hlt:i<d.nl:=by subst hO;simpa[std] using h
    refine SW.seq (SW.block ?_)
    refine SW.qab tok hO (by cbv <;> rfl) ?_ ?_
    · exact⟨Int.natCast_nonneg i,Int.ofNat_lt.2 hlt⟩
    refine SW.qab tok hO (by cbv <;> rfl) (by trivial) ?_
    refine qac.qdv (e:=p i) (args:=first++[iV (Int.ofNat i),.agg [iV (d.lw (O.nat (Int.ofNat i))),iV (d.llo (O.nat (Int.ofNat i))),iV (d.lhi (O.nat (Int.ofNat i)))]]++caps) (by rw[hnat];exact hp i hlt) (by cbv <;> rfl) fun b hb'=>?_
    refine qac.run tok hO (by cbv <;> rfl) (by trivial) ?_
    refine SW.qa6 (by cbv <;> rfl) (fun h'=>?_) (fun h'=>SW.skip ?_)
    · refine SW.qab tok hO (by cbv <;> rfl) (by trivial) ?_
      refine SW.ret ⟨_,_,rfl,rfl,Eqv.bool (Bool.eq_iff_iff.2 ?_)⟩
      subst hO
      simp[std,hb'] at h'
      simp only [Bool.false_eq_true,qdz,decide_eq_true_eq,false_iff]
      intro hq
      rw[hq i hlt] at h'
      cases h'
    · refine SW.run tok hO (by cbv <;> rfl) (by trivial) ?_
      refine⟨i+1,by omega,⟨by omega,fun j hj=>?_⟩,qdt.by rfl rfl (by simp) (Nat.le_refl _) (Nat.zero_le _) ⟨⟨rfl,.inr hb⟩,⟨rfl,.inr (qa0 d)⟩,⟨rfl,.inr qbe⟩,⟨qci hO (by omega),.inr qbe⟩,trivial⟩ trivial⟩
      rcases Nat.lt_succ_iff_lt_or_eq.1 hj with hj | rfl
      · exact hall j hj
      · subst hO;simp[std,hb'] at h';exact h'
  · refine SW.qab tok hO (by cbv <;> rfl) (by trivial) ?_
    refine SW.ret ⟨_,_,rfl,rfl,Eqv.bool (Bool.eq_iff_iff.2 ?_)⟩
    have hge:d.nl≤i:=by subst hO;simpa[std] using h
    simp only [qdz,decide_eq_true_eq,true_iff]
    exact fun j hj=>hall j (by omega)
theorem qva (d:qai)(g0:FuncId) (first caps:List AV)(p:Nat→Bool)(hb:Below 0 (.fn (.func g0) first caps))(hn:d.nc<4611686018427387904)(hp:∀ i,i<d.nc→Pure Try.prog g0 (first++[iV i,qvx d i]++caps) (.sb (p i))) :
    Pure Try.prog 118 [qd8 d,.fn (.func g0) first caps] (.sb (qdz d.nc p)):=by
  obtain⟨O,hO⟩:∃ O:Ar,O=std:=⟨_,rfl⟩
  have hnat:∀ i:Nat,O.nat (Int.ofNat i)=i:=fun i=>by subst hO;rfl
  refine qad tok 3 Try.func118 en118 rfl ⟨qbl d,hb,trivial⟩ Below.sb ?_
  refine SW.qab tok hO (by cbv <;> rfl) (by trivial) ?_
  refine SW.seq ?_
  refine SW.qab tok hO (by cbv <;> rfl) (by trivial) ?_
  refine(SW.block (SW.qhk (fun i:Nat=>⟨⟨20,getT [(1,.fn (.func g0) first caps),(7,qd8 d),(8,iV d.nc),(9,iV i)]⟩,[]⟩) (fun _=>⟨[],0⟩) (fun i=>d.nc - i) (fun i=>i≤d.nc∧∀ j,j<i→p j=true) 0
    (fun _=>rfl) ⟨Nat.zero_le _,fun j hj=>absurd hj (Nat.not_lt_zero j)⟩ (qdt.by rfl rfl (by simp) (Nat.le_refl _) (Nat.le_refl _) ⟨⟨rfl,.inl rfl⟩,⟨rfl,.inl rfl⟩,⟨rfl,.inl rfl⟩,⟨rfl,.inl rfl⟩,trivial⟩ trivial) fun i ⟨hi,hall⟩=>?_))
  refine SW.qab tok hO (by cbv <;> rfl) (by trivial) ?_
  refine SW.seq (SW.qa6 (by cbv <;> rfl) (fun h=>SW.skip ?_) (fun h=>SW.exit ?_))
  · have hlt:i<d.nc:=by subst hO;simpa[std] using h
    refine SW.seq (SW.block ?_)
    refine SW.qab tok hO (by cbv <;> rfl) ?_ ?_
    · exact⟨Int.natCast_nonneg i,Int.ofNat_lt.2 hlt⟩
    refine SW.qab tok hO (by cbv <;> rfl) (by trivial) ?_
    refine qac.qdv (e:=p i) (args:=first++[iV (Int.ofNat i),.agg [iV (d.ck (O.nat (Int.ofNat i))),iV (d.cw (O.nat (Int.ofNat i))),iV (d.clo (O.nat (Int.ofNat i))),iV (d.chi (O.nat (Int.ofNat i)))]]++caps) (by rw[hnat];exact hp i hlt) (by cbv <;> rfl) fun b hb'=>?_
    refine qac.run tok hO (by cbv <;> rfl) (by trivial) ?_
    refine SW.qa6 (by cbv <;> rfl) (fun h'=>?_) (fun h'=>SW.skip ?_)
    · refine SW.qab tok hO (by cbv <;> rfl) (by trivial) ?_
      refine SW.ret ⟨_,_,rfl,rfl,Eqv.bool (Bool.eq_iff_iff.2 ?_)⟩
      subst hO
      simp[std,hb'] at h'
      simp only [Bool.false_eq_true,qdz,decide_eq_true_eq,false_iff]
      intro hq
      rw[hq i hlt] at h'
      cases h'
    · refine SW.run tok hO (by cbv <;> rfl) (by trivial) ?_
      refine⟨i+1,by omega,⟨by omega,fun j hj=>?_⟩,qdt.by rfl rfl (by simp) (Nat.le_refl _) (Nat.zero_le _) ⟨⟨rfl,.inr hb⟩,⟨rfl,.inr (qbl d)⟩,⟨rfl,.inr qbe⟩,⟨qci hO (by omega),.inr qbe⟩,trivial⟩ trivial⟩
      rcases Nat.lt_succ_iff_lt_or_eq.1 hj with hj | rfl
      · exact hall j hj
      · subst hO;simp[std,hb'] at h';exact h'
  · refine SW.qab tok hO (by cbv <;> rfl) (by trivial) ?_
    refine SW.ret ⟨_,_,rfl,rfl,Eqv.bool (Bool.eq_iff_iff.2 ?_)⟩
    have hge:d.nc≤i:=by subst hO;simpa[std] using h
    simp only [qdz,decide_eq_true_eq,true_iff]
    exact fun j hj=>hall j (by omega)
end Go.Fz
namespace Go.Fz
open Go.Proofs
set_option maxRecDepth 100000
def kindF (i:Nat):AV:=match i with
  | 0=>.fn (.func 129) [] []
  | 1=>.fn (.func 130) [] []
  | 2=>.fn (.func 131) [] []
  | 3=>.fn (.func 132) [] []
  | 4=>.fn (.func 133) [] []
  | _=>.fn (.func 134) [] []
def kindB (i:Nat):Bool:=match i with
  | 0=>true
  | 1=>true
  | _=>false
def kindC (i k:Nat):AV:=match k with
  | 0=>kindF i
  | _=>.sb (kindB i)
theorem qok (i:Nat):Below 0 (kindF i):=by unfold kindF;split <;> exact Below.fn (qb2.ok trivial) (qb2.ok trivial)
theorem qol:Below 0 (.isl 6 2 true kindC):=Below.isl fun i k _ _=>by
  unfold kindC;split
  · exact qok i
  · exact Below.sb
theorem qe4:Pure Try.prog 128 [] (.isl 6 2 true kindC):=by
  obtain⟨O,hO⟩:∃ O:Ar,O=std:=⟨_,rfl⟩
  refine qad tok 3 Try.func128 en128 rfl trivial qol ?_
  refine SW.qab tok hO (by cbv <;> rfl) (by trivial) ?_
  refine SW.qab tok hO (by cbv <;> rfl) (by trivial) ?_
  refine SW.ret ⟨_,_,rfl,rfl,?_⟩
  refine Eqv.isl rfl fun i k hi hk=>?_
  match i,k,hi,hk with
  | 0,0,_,_=>exact Eqv.of rfl
  | 1,0,_,_=>exact Eqv.of rfl
  | 2,0,_,_=>exact Eqv.of rfl
  | 3,0,_,_=>exact Eqv.of rfl
  | 4,0,_,_=>exact Eqv.of rfl
  | 5,0,_,_=>exact Eqv.of rfl
  | 0,1,_,_=>exact Eqv.bool rfl
  | 1,1,_,_=>exact Eqv.bool rfl
  | 2,1,_,_=>exact Eqv.bool rfl
  | 3,1,_,_=>exact Eqv.bool rfl
  | 4,1,_,_=>exact Eqv.bool rfl
  | 5,1,_,_=>exact Eqv.bool rfl
theorem qdj (c w lo hi:Int):Pure Try.prog 127 [.agg [iV c,iV w,iV lo,iV hi]] (.sb (decide (0≤c)&&decide (c<6))):=by
  obtain⟨O,hO⟩:∃ O:Ar,O=std:=⟨_,rfl⟩
  obtain⟨G,hG⟩:∃ G,G=kindC:=⟨_,rfl⟩
  have hk:=qe4
  rw[←hG] at hk
  refine qad tok 3 Try.func127 en127 rfl ⟨Below.agg (qb2.ok ⟨Below.lit,Below.lit,Below.lit,Below.lit,trivial⟩),trivial⟩ Below.sb ?_
  refine SW.qab tok hO (by cbv <;> rfl) (by trivial) ?_
  refine SW.qbf tok mixed hO (by rfl) (by cbv <;> rfl) (by trivial) ?_
  refine AnyE.dec tok hO (by rfl) (by cbv <;> rfl) (by trivial) (fun h1=>?_) (fun h1=>?_)
  · refine AnyE.run tok hO (by rfl) (by cbv <;> rfl) (by trivial) ?_
    refine AnyE.qas hk (by cbv <;> rfl) (by cbv <;> rfl) ?_
    refine AnyE.run tok hO (by rfl) (by cbv <;> rfl) (by trivial) ?_
    refine AnyE.dec tok hO (by rfl) (by cbv <;> rfl) (by trivial) (fun h2=>?_) (fun h2=>?_)
    all_goals
      refine AnyE.run tok hO (by rfl) (by cbv <;> rfl) (by trivial) ?_
      refine SW.ret ⟨_,_,rfl,rfl,Eqv.bool ?_⟩
      subst hO;simp[std] at h1 h2;simp[h1,h2]
  · refine AnyE.run tok hO (by rfl) (by cbv <;> rfl) (by trivial) ?_
    refine SW.ret ⟨_,_,rfl,rfl,Eqv.bool ?_⟩
    subst hO;simp[std] at h1 ⊢;omega
theorem qqj (w lo hi:Int):Pure Try.prog 125 [.agg [iV 0,iV w,iV lo,iV hi]] (.agg [.fn (.func 129) [] [],.sb true]):=by
  obtain⟨O,hO⟩:∃ O:Ar,O=std:=⟨_,rfl⟩
  refine qad tok 3 Try.func125 qnu rfl ⟨Below.agg (qb2.ok ⟨Below.lit,Below.lit,Below.lit,Below.lit,trivial⟩),trivial⟩ (Below.agg (qb2.ok ⟨Below.fn (qb2.ok trivial) (qb2.ok trivial),Below.sb,trivial⟩)) ?_
  refine SW.qab tok hO (by cbv <;> rfl) (by trivial) ?_
  refine SW.qbf tok mixed hO (by rfl) (by cbv <;> rfl) (by trivial) ?_
  refine AnyE.qas qe4 (by cbv <;> rfl) (by cbv <;> rfl) ?_
  subst hO
  refine AnyE.run tok rfl (by rfl) (by cbv <;> rfl) ?_ ?_
  · exact⟨by show(0:Int)≤0;decide,by show(0:Int)<6;decide⟩
  refine AnyE.eff tok rfl (by cbv <;> rfl) (by cbv <;> rfl) (by trivial) ?_
  refine AnyE.done (by rfl) ?_
  exact SW.ret ⟨_,_,rfl,rfl,Eqv.agg (.cons (Eqv.of rfl) (.cons (Eqv.of rfl) .nil))⟩
theorem qqi (w lo hi:Int):Pure Try.prog 125 [.agg [iV 1,iV w,iV lo,iV hi]] (.agg [.fn (.func 130) [] [],.sb true]):=by
  obtain⟨O,hO⟩:∃ O:Ar,O=std:=⟨_,rfl⟩
  refine qad tok 3 Try.func125 qnu rfl ⟨Below.agg (qb2.ok ⟨Below.lit,Below.lit,Below.lit,Below.lit,trivial⟩),trivial⟩ (Below.agg (qb2.ok ⟨Below.fn (qb2.ok trivial) (qb2.ok trivial),Below.sb,trivial⟩)) ?_
  refine SW.qab tok hO (by cbv <;> rfl) (by trivial) ?_
  refine SW.qbf tok mixed hO (by rfl) (by cbv <;> rfl) (by trivial) ?_
  refine AnyE.qas qe4 (by cbv <;> rfl) (by cbv <;> rfl) ?_
  subst hO
  refine AnyE.run tok rfl (by rfl) (by cbv <;> rfl) ?_ ?_
  · exact⟨by show(0:Int)≤1;decide,by show(1:Int)<6;decide⟩
  refine AnyE.eff tok rfl (by cbv <;> rfl) (by cbv <;> rfl) (by trivial) ?_
  refine AnyE.done (by rfl) ?_
  exact SW.ret ⟨_,_,rfl,rfl,Eqv.agg (.cons (Eqv.of rfl) (.cons (Eqv.of rfl) .nil))⟩
theorem qqh (w lo hi:Int):Pure Try.prog 125 [.agg [iV 2,iV w,iV lo,iV hi]] (.agg [.fn (.func 131) [] [],.sb false]):=by
  obtain⟨O,hO⟩:∃ O:Ar,O=std:=⟨_,rfl⟩
  refine qad tok 3 Try.func125 qnu rfl ⟨Below.agg (qb2.ok ⟨Below.lit,Below.lit,Below.lit,Below.lit,trivial⟩),trivial⟩ (Below.agg (qb2.ok ⟨Below.fn (qb2.ok trivial) (qb2.ok trivial),Below.sb,trivial⟩)) ?_
  refine SW.qab tok hO (by cbv <;> rfl) (by trivial) ?_
  refine SW.qbf tok mixed hO (by rfl) (by cbv <;> rfl) (by trivial) ?_
  refine AnyE.qas qe4 (by cbv <;> rfl) (by cbv <;> rfl) ?_
  subst hO
  refine AnyE.run tok rfl (by rfl) (by cbv <;> rfl) ?_ ?_
  · exact⟨by show(0:Int)≤2;decide,by show(2:Int)<6;decide⟩
  refine AnyE.eff tok rfl (by cbv <;> rfl) (by cbv <;> rfl) (by trivial) ?_
  refine AnyE.done (by rfl) ?_
  exact SW.ret ⟨_,_,rfl,rfl,Eqv.agg (.cons (Eqv.of rfl) (.cons (Eqv.of rfl) .nil))⟩
theorem qqg (w lo hi:Int):Pure Try.prog 125 [.agg [iV 3,iV w,iV lo,iV hi]] (.agg [.fn (.func 132) [] [],.sb false]):=by
  obtain⟨O,hO⟩:∃ O:Ar,O=std:=⟨_,rfl⟩
  refine qad tok 3 Try.func125 qnu rfl ⟨Below.agg (qb2.ok ⟨Below.lit,Below.lit,Below.lit,Below.lit,trivial⟩),trivial⟩ (Below.agg (qb2.ok ⟨Below.fn (qb2.ok trivial) (qb2.ok trivial),Below.sb,trivial⟩)) ?_
  refine SW.qab tok hO (by cbv <;> rfl) (by trivial) ?_
  refine SW.qbf tok mixed hO (by rfl) (by cbv <;> rfl) (by trivial) ?_
  refine AnyE.qas qe4 (by cbv <;> rfl) (by cbv <;> rfl) ?_
  subst hO
  refine AnyE.run tok rfl (by rfl) (by cbv <;> rfl) ?_ ?_
  · exact⟨by show(0:Int)≤3;decide,by show(3:Int)<6;decide⟩
  refine AnyE.eff tok rfl (by cbv <;> rfl) (by cbv <;> rfl) (by trivial) ?_
  refine AnyE.done (by rfl) ?_
  exact SW.ret ⟨_,_,rfl,rfl,Eqv.agg (.cons (Eqv.of rfl) (.cons (Eqv.of rfl) .nil))⟩
theorem qqf (w lo hi:Int):Pure Try.prog 125 [.agg [iV 4,iV w,iV lo,iV hi]] (.agg [.fn (.func 133) [] [],.sb false]):=by
  obtain⟨O,hO⟩:∃ O:Ar,O=std:=⟨_,rfl⟩
  refine qad tok 3 Try.func125 qnu rfl ⟨Below.agg (qb2.ok ⟨Below.lit,Below.lit,Below.lit,Below.lit,trivial⟩),trivial⟩ (Below.agg (qb2.ok ⟨Below.fn (qb2.ok trivial) (qb2.ok trivial),Below.sb,trivial⟩)) ?_
  refine SW.qab tok hO (by cbv <;> rfl) (by trivial) ?_
  refine SW.qbf tok mixed hO (by rfl) (by cbv <;> rfl) (by trivial) ?_
  refine AnyE.qas qe4 (by cbv <;> rfl) (by cbv <;> rfl) ?_
  subst hO
  refine AnyE.run tok rfl (by rfl) (by cbv <;> rfl) ?_ ?_
  · exact⟨by show(0:Int)≤4;decide,by show(4:Int)<6;decide⟩
  refine AnyE.eff tok rfl (by cbv <;> rfl) (by cbv <;> rfl) (by trivial) ?_
  refine AnyE.done (by rfl) ?_
  exact SW.ret ⟨_,_,rfl,rfl,Eqv.agg (.cons (Eqv.of rfl) (.cons (Eqv.of rfl) .nil))⟩
theorem qqe (w lo hi:Int):Pure Try.prog 125 [.agg [iV 5,iV w,iV lo,iV hi]] (.agg [.fn (.func 134) [] [],.sb false]):=by
  obtain⟨O,hO⟩:∃ O:Ar,O=std:=⟨_,rfl⟩
  refine qad tok 3 Try.func125 qnu rfl ⟨Below.agg (qb2.ok ⟨Below.lit,Below.lit,Below.lit,Below.lit,trivial⟩),trivial⟩ (Below.agg (qb2.ok ⟨Below.fn (qb2.ok trivial) (qb2.ok trivial),Below.sb,trivial⟩)) ?_
  refine SW.qab tok hO (by cbv <;> rfl) (by trivial) ?_
  refine SW.qbf tok mixed hO (by rfl) (by cbv <;> rfl) (by trivial) ?_
  refine AnyE.qas qe4 (by cbv <;> rfl) (by cbv <;> rfl) ?_
  subst hO
  refine AnyE.run tok rfl (by rfl) (by cbv <;> rfl) ?_ ?_
  · exact⟨by show(0:Int)≤5;decide,by show(5:Int)<6;decide⟩
  refine AnyE.eff tok rfl (by cbv <;> rfl) (by cbv <;> rfl) (by trivial) ?_
  refine AnyE.done (by rfl) ?_
  exact SW.ret ⟨_,_,rfl,rfl,Eqv.agg (.cons (Eqv.of rfl) (.cons (Eqv.of rfl) .nil))⟩
def qai.qkv (d:qai)(i:Nat):Bool:=(decide (0≤d.ck i)&&decide (d.ck i<6))&&d.qou (d.cw i)&&(decide (d.cw i=0)||decide (d.ck i<2))&&qbq (d.clo i) (d.chi i) 0 20000
theorem qos (d:qai)(j w lo hi:Int):Pure Try.prog 119 [qdp d,iV j,.agg [iV 0,iV w,iV lo,iV hi]] (.sb (d.qou w&&(decide (w=0)||true)&&qbq lo hi 0 20000)):=by
  obtain⟨O,hO⟩:∃ O:Ar,O=std:=⟨_,rfl⟩
  refine qad tok 3 Try.func119 qmx rfl ⟨qal d,qbe,Below.agg (qb2.ok ⟨Below.lit,Below.lit,Below.lit,Below.lit,trivial⟩),trivial⟩ Below.sb ?_
  refine SW.qab tok hO (by cbv <;> rfl) (by trivial) ?_
  refine SW.qab tok hO (by cbv <;> rfl) (by trivial) ?_
  refine qac.qas ((qdj 0 w lo hi).res (Eqv.lit (c:=true) (by decide))) (by cbv <;> rfl) ?_
  refine qac.run tok hO (by cbv <;> rfl) (by trivial) ?_
  refine qac.qdv (qcx d w) (by cbv <;> rfl) fun b1 hb1=>?_
  rw[←hb1]
  refine qac.run tok hO (by cbv <;> rfl) (by trivial) ?_
  refine qac.qbg (by cbv <;> rfl) (fun h1=>?_) (fun h1=>?_) <;> refine qac.run tok hO (by cbv <;> rfl) (by trivial) ?_
  · subst h1
    refine qac.qbg (by cbv <;> rfl) (fun h2=>?_) (fun h2=>?_) <;> refine qac.run tok hO (by cbv <;> rfl) (by trivial) ?_
    · refine qac.qdv (qcs lo hi 0 20000) (by cbv <;> rfl) fun b2 hb2=>?_
      refine qac.run tok hO (by cbv <;> rfl) (by trivial) ?_
      refine SW.ret ⟨_,_,rfl,rfl,Eqv.sb ?_⟩
      subst hO;simp[std] at h2;simp[h2,hb2]
    · refine qac.qas ((qqj w lo hi).res (Eqv.agg (.cons (Eqv.refl _) (.cons (Eqv.lit (c:=true) rfl) .nil)))) (by cbv <;> rfl) ?_
      refine qac.run tok hO (by cbv <;> rfl) (by trivial) ?_
      refine qac.qdv (qcs lo hi 0 20000) (by cbv <;> rfl) fun b2 hb2=>?_
      refine qac.run tok hO (by cbv <;> rfl) (by trivial) ?_
      refine SW.ret ⟨_,_,rfl,rfl,Eqv.sb ?_⟩
      simp[hb2]
  · refine SW.ret ⟨_,_,rfl,rfl,Eqv.bool ?_⟩
    rw[h1];rfl
theorem qor (d:qai)(j w lo hi:Int):Pure Try.prog 119 [qdp d,iV j,.agg [iV 1,iV w,iV lo,iV hi]] (.sb (d.qou w&&(decide (w=0)||true)&&qbq lo hi 0 20000)):=by
  obtain⟨O,hO⟩:∃ O:Ar,O=std:=⟨_,rfl⟩
  refine qad tok 3 Try.func119 qmx rfl ⟨qal d,qbe,Below.agg (qb2.ok ⟨Below.lit,Below.lit,Below.lit,Below.lit,trivial⟩),trivial⟩ Below.sb ?_
  refine SW.qab tok hO (by cbv <;> rfl) (by trivial) ?_
  refine SW.qab tok hO (by cbv <;> rfl) (by trivial) ?_
  refine qac.qas ((qdj 1 w lo hi).res (Eqv.lit (c:=true) (by decide))) (by cbv <;> rfl) ?_
  refine qac.run tok hO (by cbv <;> rfl) (by trivial) ?_
  refine qac.qdv (qcx d w) (by cbv <;> rfl) fun b1 hb1=>?_
  rw[←hb1]
  refine qac.run tok hO (by cbv <;> rfl) (by trivial) ?_
  refine qac.qbg (by cbv <;> rfl) (fun h1=>?_) (fun h1=>?_) <;> refine qac.run tok hO (by cbv <;> rfl) (by trivial) ?_
  · subst h1
    refine qac.qbg (by cbv <;> rfl) (fun h2=>?_) (fun h2=>?_) <;> refine qac.run tok hO (by cbv <;> rfl) (by trivial) ?_
    · refine qac.qdv (qcs lo hi 0 20000) (by cbv <;> rfl) fun b2 hb2=>?_
      refine qac.run tok hO (by cbv <;> rfl) (by trivial) ?_
      refine SW.ret ⟨_,_,rfl,rfl,Eqv.sb ?_⟩
      subst hO;simp[std] at h2;simp[h2,hb2]
    · refine qac.qas ((qqi w lo hi).res (Eqv.agg (.cons (Eqv.refl _) (.cons (Eqv.lit (c:=true) rfl) .nil)))) (by cbv <;> rfl) ?_
      refine qac.run tok hO (by cbv <;> rfl) (by trivial) ?_
      refine qac.qdv (qcs lo hi 0 20000) (by cbv <;> rfl) fun b2 hb2=>?_
      refine qac.run tok hO (by cbv <;> rfl) (by trivial) ?_
      refine SW.ret ⟨_,_,rfl,rfl,Eqv.sb ?_⟩
      simp[hb2]
  · refine SW.ret ⟨_,_,rfl,rfl,Eqv.bool ?_⟩
    rw[h1];rfl
theorem qoq (d:qai)(j w lo hi:Int):Pure Try.prog 119 [qdp d,iV j,.agg [iV 2,iV w,iV lo,iV hi]] (.sb (d.qou w&&(decide (w=0)||false)&&qbq lo hi 0 20000)):=by
  obtain⟨O,hO⟩:∃ O:Ar,O=std:=⟨_,rfl⟩
  refine qad tok 3 Try.func119 qmx rfl ⟨qal d,qbe,Below.agg (qb2.ok ⟨Below.lit,Below.lit,Below.lit,Below.lit,trivial⟩),trivial⟩ Below.sb ?_
  refine SW.qab tok hO (by cbv <;> rfl) (by trivial) ?_
  refine SW.qab tok hO (by cbv <;> rfl) (by trivial) ?_
  refine qac.qas ((qdj 2 w lo hi).res (Eqv.lit (c:=true) (by decide))) (by cbv <;> rfl) ?_
  refine qac.run tok hO (by cbv <;> rfl) (by trivial) ?_
  refine qac.qdv (qcx d w) (by cbv <;> rfl) fun b1 hb1=>?_
  rw[←hb1]
  refine qac.run tok hO (by cbv <;> rfl) (by trivial) ?_
  refine qac.qbg (by cbv <;> rfl) (fun h1=>?_) (fun h1=>?_) <;> refine qac.run tok hO (by cbv <;> rfl) (by trivial) ?_
  · subst h1
    refine qac.qbg (by cbv <;> rfl) (fun h2=>?_) (fun h2=>?_) <;> refine qac.run tok hO (by cbv <;> rfl) (by trivial) ?_
    · refine qac.qdv (qcs lo hi 0 20000) (by cbv <;> rfl) fun b2 hb2=>?_
      refine qac.run tok hO (by cbv <;> rfl) (by trivial) ?_
      refine SW.ret ⟨_,_,rfl,rfl,Eqv.sb ?_⟩
      subst hO;simp[std] at h2;simp[h2,hb2]
    · refine qac.qas ((qqh w lo hi).res (Eqv.agg (.cons (Eqv.refl _) (.cons (Eqv.lit (c:=false) rfl) .nil)))) (by cbv <;> rfl) ?_
      refine qac.run tok hO (by cbv <;> rfl) (by trivial) ?_
      refine SW.ret ⟨_,_,rfl,rfl,Eqv.bool ?_⟩
      subst hO;simp[std] at h2;simp[h2]
  · refine SW.ret ⟨_,_,rfl,rfl,Eqv.bool ?_⟩
    rw[h1];rfl
theorem qop (d:qai)(j w lo hi:Int):Pure Try.prog 119 [qdp d,iV j,.agg [iV 3,iV w,iV lo,iV hi]] (.sb (d.qou w&&(decide (w=0)||false)&&qbq lo hi 0 20000)):=by
  obtain⟨O,hO⟩:∃ O:Ar,O=std:=⟨_,rfl⟩
  refine qad tok 3 Try.func119 qmx rfl ⟨qal d,qbe,Below.agg (qb2.ok ⟨Below.lit,Below.lit,Below.lit,Below.lit,trivial⟩),trivial⟩ Below.sb ?_
  refine SW.qab tok hO (by cbv <;> rfl) (by trivial) ?_
  refine SW.qab tok hO (by cbv <;> rfl) (by trivial) ?_
  refine qac.qas ((qdj 3 w lo hi).res (Eqv.lit (c:=true) (by decide))) (by cbv <;> rfl) ?_
  refine qac.run tok hO (by cbv <;> rfl) (by trivial) ?_
  refine qac.qdv (qcx d w) (by cbv <;> rfl) fun b1 hb1=>?_
  rw[←hb1]
  refine qac.run tok hO (by cbv <;> rfl) (by trivial) ?_
  refine qac.qbg (by cbv <;> rfl) (fun h1=>?_) (fun h1=>?_) <;> refine qac.run tok hO (by cbv <;> rfl) (by trivial) ?_
  · subst h1
    refine qac.qbg (by cbv <;> rfl) (fun h2=>?_) (fun h2=>?_) <;> refine qac.run tok hO (by cbv <;> rfl) (by trivial) ?_
    · refine qac.qdv (qcs lo hi 0 20000) (by cbv <;> rfl) fun b2 hb2=>?_
      refine qac.run tok hO (by cbv <;> rfl) (by trivial) ?_
      refine SW.ret ⟨_,_,rfl,rfl,Eqv.sb ?_⟩
      subst hO;simp[std] at h2;simp[h2,hb2]
    · refine qac.qas ((qqg w lo hi).res (Eqv.agg (.cons (Eqv.refl _) (.cons (Eqv.lit (c:=false) rfl) .nil)))) (by cbv <;> rfl) ?_
      refine qac.run tok hO (by cbv <;> rfl) (by trivial) ?_
      refine SW.ret ⟨_,_,rfl,rfl,Eqv.bool ?_⟩
      subst hO;simp[std] at h2;simp[h2]
  · refine SW.ret ⟨_,_,rfl,rfl,Eqv.bool ?_⟩
    rw[h1];rfl
theorem qoo (d:qai)(j w lo hi:Int):Pure Try.prog 119 [qdp d,iV j,.agg [iV 4,iV w,iV lo,iV hi]] (.sb (d.qou w&&(decide (w=0)||false)&&qbq lo hi 0 20000)):=by
  obtain⟨O,hO⟩:∃ O:Ar,O=std:=⟨_,rfl⟩
  refine qad tok 3 Try.func119 qmx rfl ⟨qal d,qbe,Below.agg (qb2.ok ⟨Below.lit,Below.lit,Below.lit,Below.lit,trivial⟩),trivial⟩ Below.sb ?_
  refine SW.qab tok hO (by cbv <;> rfl) (by trivial) ?_
  refine SW.qab tok hO (by cbv <;> rfl) (by trivial) ?_
  refine qac.qas ((qdj 4 w lo hi).res (Eqv.lit (c:=true) (by decide))) (by cbv <;> rfl) ?_
  refine qac.run tok hO (by cbv <;> rfl) (by trivial) ?_
  refine qac.qdv (qcx d w) (by cbv <;> rfl) fun b1 hb1=>?_
  rw[←hb1]
  refine qac.run tok hO (by cbv <;> rfl) (by trivial) ?_
  refine qac.qbg (by cbv <;> rfl) (fun h1=>?_) (fun h1=>?_) <;> refine qac.run tok hO (by cbv <;> rfl) (by trivial) ?_
  · subst h1
    refine qac.qbg (by cbv <;> rfl) (fun h2=>?_) (fun h2=>?_) <;> refine qac.run tok hO (by cbv <;> rfl) (by trivial) ?_
    · refine qac.qdv (qcs lo hi 0 20000) (by cbv <;> rfl) fun b2 hb2=>?_
      refine qac.run tok hO (by cbv <;> rfl) (by trivial) ?_
      refine SW.ret ⟨_,_,rfl,rfl,Eqv.sb ?_⟩
      subst hO;simp[std] at h2;simp[h2,hb2]
    · refine qac.qas ((qqf w lo hi).res (Eqv.agg (.cons (Eqv.refl _) (.cons (Eqv.lit (c:=false) rfl) .nil)))) (by cbv <;> rfl) ?_
      refine qac.run tok hO (by cbv <;> rfl) (by trivial) ?_
      refine SW.ret ⟨_,_,rfl,rfl,Eqv.bool ?_⟩
      subst hO;simp[std] at h2;simp[h2]
  · refine SW.ret ⟨_,_,rfl,rfl,Eqv.bool ?_⟩
    rw[h1];rfl
theorem qon (d:qai)(j w lo hi:Int):Pure Try.prog 119 [qdp d,iV j,.agg [iV 5,iV w,iV lo,iV hi]] (.sb (d.qou w&&(decide (w=0)||false)&&qbq lo hi 0 20000)):=by
  obtain⟨O,hO⟩:∃ O:Ar,O=std:=⟨_,rfl⟩
  refine qad tok 3 Try.func119 qmx rfl ⟨qal d,qbe,Below.agg (qb2.ok ⟨Below.lit,Below.lit,Below.lit,Below.lit,trivial⟩),trivial⟩ Below.sb ?_
  refine SW.qab tok hO (by cbv <;> rfl) (by trivial) ?_
  refine SW.qab tok hO (by cbv <;> rfl) (by trivial) ?_
  refine qac.qas ((qdj 5 w lo hi).res (Eqv.lit (c:=true) (by decide))) (by cbv <;> rfl) ?_
  refine qac.run tok hO (by cbv <;> rfl) (by trivial) ?_
  refine qac.qdv (qcx d w) (by cbv <;> rfl) fun b1 hb1=>?_
  rw[←hb1]
  refine qac.run tok hO (by cbv <;> rfl) (by trivial) ?_
  refine qac.qbg (by cbv <;> rfl) (fun h1=>?_) (fun h1=>?_) <;> refine qac.run tok hO (by cbv <;> rfl) (by trivial) ?_
  · subst h1
    refine qac.qbg (by cbv <;> rfl) (fun h2=>?_) (fun h2=>?_) <;> refine qac.run tok hO (by cbv <;> rfl) (by trivial) ?_
    · refine qac.qdv (qcs lo hi 0 20000) (by cbv <;> rfl) fun b2 hb2=>?_
      refine qac.run tok hO (by cbv <;> rfl) (by trivial) ?_
      refine SW.ret ⟨_,_,rfl,rfl,Eqv.sb ?_⟩
      subst hO;simp[std] at h2;simp[h2,hb2]
    · refine qac.qas ((qqe w lo hi).res (Eqv.agg (.cons (Eqv.refl _) (.cons (Eqv.lit (c:=false) rfl) .nil)))) (by cbv <;> rfl) ?_
      refine qac.run tok hO (by cbv <;> rfl) (by trivial) ?_
      refine SW.ret ⟨_,_,rfl,rfl,Eqv.bool ?_⟩
      subst hO;simp[std] at h2;simp[h2]
  · refine SW.ret ⟨_,_,rfl,rfl,Eqv.bool ?_⟩
    rw[h1];rfl
theorem qrs (d:qai)(i:Nat)(j:Int):Pure Try.prog 119 [qdp d,iV j,qvx d i] (.sb (d.qkv i)):=by
  by_cases h:0≤d.ck i∧d.ck i<6
  · have hc:d.ck i=0∨d.ck i=1∨d.ck i=2∨d.ck i=3∨d.ck i=4∨d.ck i=5:=by omega
    unfold qvx qai.qkv
    rcases hc with h | h | h | h | h | h <;> rw[h]
    · exact(qos d j _ _ _).res (Eqv.sb (by simp))
    · exact(qor d j _ _ _).res (Eqv.sb (by simp))
    · exact(qoq d j _ _ _).res (Eqv.sb (by simp))
    · exact(qop d j _ _ _).res (Eqv.sb (by simp))
    · exact(qoo d j _ _ _).res (Eqv.sb (by simp))
    · exact(qon d j _ _ _).res (Eqv.sb (by simp))
  · have hk:(decide (0≤d.ck i)&&decide (d.ck i<6))=false:=by
      rw[Bool.eq_false_iff];intro h1;simp at h1;exact h h1
    have hcall:=qdj (d.ck i) (d.cw i) (d.clo i) (d.chi i)
    rw[hk] at hcall
    refine(?_:Pure Try.prog 119 [qdp d,iV j,qvx d i] (.sb false)).res (Eqv.sb (by simp[qai.qkv,hk]))
    obtain⟨O,hO⟩:∃ O:Ar,O=std:=⟨_,rfl⟩
    refine qad tok 3 Try.func119 qmx rfl ⟨qal d,qbe,qlg d i,trivial⟩ Below.sb ?_
    refine SW.qab tok hO (by cbv <;> rfl) (by trivial) ?_
    refine SW.qab tok hO (by cbv <;> rfl) (by trivial) ?_
    refine qac.qas (hcall.res (Eqv.lit (c:=false) rfl)) (by cbv <;> rfl) ?_
    refine qac.run tok hO (by cbv <;> rfl) (by trivial) ?_
    exact SW.ret ⟨_,_,rfl,rfl,Eqv.bool rfl⟩
def bet (n a b:Int):Bool:=decide (a≤n)&&decide (n≤b)
def qai.qdr (d:qai):Bool:=bet d.hand 1 20&&bet d.flat 1 20&&decide (0<d.nw)&&qdz d.nw (fun i=>qbq (d.wlo i) (d.whi i) 1 60)&&qdz d.nl d.qkq&&qdz d.nc d.qkv
def qai.small (d:qai):Prop:=d.nw<4611686018427387904∧d.nl<4611686018427387904∧d.nc<4611686018427387904
theorem qv8 (d:qai)(hs:d.small):Pure Try.prog 86 [qdp d] (.sb d.qdr):=by
  obtain⟨O,hO⟩:∃ O:Ar,O=std:=⟨_,rfl⟩
  have e1:=qvc d 115 [] [] (fun i=>qbq (d.wlo i) (d.whi i) 1 60) (Below.fn (qb2.ok trivial) (qb2.ok trivial)) hs.1 (fun i hi=>qrq i (d.wlo i) (d.whi i))
  have e2:=qvb d 117 [qdp d] [] d.qkq (Below.fn (qb2.ok ⟨qal d,trivial⟩) (qb2.ok trivial)) hs.2.1 (fun i hi=>isLot_ok d i i)
  have e3:=qva d 119 [qdp d] [] d.qkv (Below.fn (qb2.ok ⟨qal d,trivial⟩) (qb2.ok trivial)) hs.2.2 (fun i hi=>qrs d i i)
  generalize hp1:qdz d.nw (fun i=>qbq (d.wlo i) (d.whi i) 1 60)=p1 at e1
  generalize hp2:qdz d.nl d.qkq=p2 at e2
  generalize hp3:qdz d.nc d.qkv=p3 at e3
  have hv:d.qdr=(bet d.hand 1 20&&bet d.flat 1 20&&decide (0<d.nw)&&p1&&p2&&p3):=by rw[←hp1,←hp2,←hp3];rfl
  rw[hv]
  refine qad tok 3 Try.func86 en86 rfl ⟨qal d,trivial⟩ Below.sb ?_
  refine SW.qab tok hO (by cbv <;> rfl) (by trivial) ?_
  refine SW.qab tok hO (by cbv <;> rfl) (by trivial) ?_
  refine qac.qbg (by cbv <;> rfl) (fun a1=>?_) (fun a1=>?_) <;> refine qac.run tok hO (by cbv <;> rfl) (by trivial) ?_
  · refine qac.qbg (by cbv <;> rfl) (fun a2=>?_) (fun a2=>?_) <;> refine qac.run tok hO (by cbv <;> rfl) (by trivial) ?_
    · refine qac.qbg (by cbv <;> rfl) (fun a3=>?_) (fun a3=>?_) <;> refine qac.run tok hO (by cbv <;> rfl) (by trivial) ?_
      · refine qac.qbg (by cbv <;> rfl) (fun a4=>?_) (fun a4=>?_) <;> refine qac.run tok hO (by cbv <;> rfl) (by trivial) ?_
        · refine qac.qbg (by cbv <;> rfl) (fun a5=>?_) (fun a5=>?_) <;> refine qac.run tok hO (by cbv <;> rfl) (by trivial) ?_
          · have hpre:(bet d.hand 1 20&&bet d.flat 1 20&&decide (0<d.nw))=true:=by
              subst hO;cases d;simp[std] at a1 a2 a3 a4 a5;simp[bet];omega
            rw[hpre]
            refine qac.qdv e1 (by cbv <;> rfl) fun b1 hb1=>?_
            refine qac.run tok hO (by cbv <;> rfl) (by trivial) ?_
            refine qac.qbg (by cbv <;> rfl) (fun h2=>?_) (fun h2=>?_) <;> refine qac.run tok hO (by cbv <;> rfl) (by trivial) ?_
            · refine qac.qdv e2 (by cbv <;> rfl) fun b2 hb2=>?_
              refine qac.run tok hO (by cbv <;> rfl) (by trivial) ?_
              refine qac.qbg (by cbv <;> rfl) (fun h3=>?_) (fun h3=>?_) <;> refine qac.run tok hO (by cbv <;> rfl) (by trivial) ?_
              · refine qac.qdv e3 (by cbv <;> rfl) fun b3 hb3=>?_
                refine qac.run tok hO (by cbv <;> rfl) (by trivial) ?_
                refine SW.ret ⟨_,_,rfl,rfl,Eqv.sb ?_⟩
                rw[←hb1,←hb2,←hb3,h2,h3];rfl
              · refine SW.ret ⟨_,_,rfl,rfl,Eqv.bool ?_⟩
                rw[←hb1,←hb2,h3];simp
            · refine SW.ret ⟨_,_,rfl,rfl,Eqv.bool ?_⟩
              rw[←hb1,h2];simp
          all_goals (refine SW.ret ⟨_,_,rfl,rfl,Eqv.bool ?_⟩;subst hO;cases d;simp[std] at a1 a2 a3 a4 a5;simp[bet];intros;omega)
        all_goals (refine SW.ret ⟨_,_,rfl,rfl,Eqv.bool ?_⟩;subst hO;cases d;simp[std] at a1 a2 a3 a4;simp[bet];intros;omega)
      all_goals (refine SW.ret ⟨_,_,rfl,rfl,Eqv.bool ?_⟩;subst hO;cases d;simp[std] at a1 a2 a3;simp[bet];intros;omega)
    all_goals (refine SW.ret ⟨_,_,rfl,rfl,Eqv.bool ?_⟩;subst hO;cases d;simp[std] at a1 a2;simp[bet];intros;omega)
  all_goals (refine SW.ret ⟨_,_,rfl,rfl,Eqv.bool ?_⟩;subst hO;cases d;simp[std] at a1;simp[bet];intros;omega)
end Go.Fz
namespace Go.Fz
open Go.Proofs
set_option maxRecDepth 100000
theorem qbx.upD {n0 r m:Nat}{f1:Fm}{st1:St}{l:List (Nat × AV)}{len:Nat}{dm:List Nat}{hl:Hp}{n2:Nat}(e1:len=f1.ts.len)(e2:dm=f1.dm)(e3:∀ id∈dm,id<n0)(hr:n0≤r)(hm:∀ p∈hl,p.1≠m)(lo:n0≤n2)
    (get:qm5 (fun p=>qaf (qek r m) n2 p.2 (f1.ts.get p.1)) l)(obj:qm5 (fun p=>p.1<n2∧∃ o1,st1.h.get (qek r m p.1)=some o1∧qm3 (qek r m) n2 p.2 o1∧(p.1=r∨o1.fam=none)) hl) :
    qbx n0 (qek r m) f1 st1 ⟨⟨len,getT l⟩,dm⟩ ⟨hl,n2⟩:=by
  refine qbx.of (m:=r) e1 e2 e3 (fun j hj=>qei (by omega)) lo get.ok obj.ok fun p hp q hq h=>?_
  have h1:=hm p hp
  have h2:=hm q hq
  by_cases hpr:p.1=r
  · by_cases hqr:q.1=r
    · rw[hpr,hqr]
    · rw[hpr,qmd,qei hqr] at h;exact absurd h.symm h2
  · by_cases hqr:q.1=r
    · rw[hqr,qmd,qei hpr] at h;exact absurd h h1
    · rw[qei hpr,qei hqr] at h;exact h
theorem qaf.inc {O:Ar}(hO:O=std){ρ:Nat→Nat}{n i:Nat}(h:i<4611686018427387904):qaf ρ n (iV ((i+1:Nat):Int)) (.lit (.int .i64 (O.bin .add .i64 (Int.ofNat i) 1))):=by
  rw[qci hO h];exact qaf.closed Below.lit
theorem qcc {h:Hp}{D:Nat→Bool}{id sz n:Nat}{fm:Option Nat}{G:List AV}(hd:D id=true)(hg:h.get id=some (.cells fm false G))(hl:n*sz≤G.length) :
    frz h D 3 (.sl id 0 n sz false)=.isl n sz false (fun i k=>frz h D 2 (G.getD (0+i*sz+k) .any)):=by
  show(if D id=true then(match h.get id with | some (.cells _ false cs)=>if 0+n*sz≤cs.length then AV.isl n sz false (fun i k=>frz h D 2 (cs.getD (0+i*sz+k) .any)) else .any | _=>.any) else _)=_
  rw[if_pos hd,hg]
  exact if_pos (by omega)
theorem qcn {h:Hp}{D:Nat→Bool}{sz n i k:Nat}{g:Nat→Nat→AV}(hi:i<n)(hk:k<sz)(hz:frz h D 2 (g i k)=g i k):frz h D 2 ((flatG sz g n).getD (0+i*sz+k) .any)=g i k:=by
  rw[List.getD_eq_getElem?_getD,show 0+i*sz+k=i*sz+k by omega,qc2 sz g n i k hi hk];exact hz
def qky (d:qai)(i k:Nat):AV:=if i<d.nw then womC d i k else lotC d (i - d.nw) (k+1)
theorem qv5 (d:qai)(i k:Nat):(womC d i k).one=true:=by unfold womC;split <;> rfl
theorem qhx (d:qai)(i k:Nat):Below 0 (womC d i k):=by unfold womC;split <;> exact Below.lit
theorem qie (d:qai)(i k:Nat):Below 0 (lotC d i k):=by unfold lotC;split <;> exact Below.lit
theorem qh1 (d:qai)(i k:Nat):Below 0 (qky d i k):=by unfold qky;split;exact qhx d i k;exact qie d _ _
theorem qar {sz:Nat}{g:Nat→Nat→AV}(h:∀ i k,Below 0 (g i k)):∀ n,∀ a∈flatG sz g n,Below 0 a
  | 0,a,ha=>by cases ha
  | n+1,a,ha=>by
    simp only [flatG,List.mem_append] at ha
    rcases ha with ha | ha
    · exact qar h n a ha
    · obtain⟨i,hi⟩:=List.mem_iff_getElem?.1 ha
      rw[qc4] at hi
      split at hi
      · cases hi;exact h n _
      · cases hi
theorem qd5 {sz:Nat}{g g':Nat→Nat→AV}:∀ {n:Nat},(∀ i k,i<n→g i k=g' i k)→flatG sz g n=flatG sz g' n
  | 0,_=>rfl
  | n+1,h=>by
    simp only [flatG]
    rw[qd5 (n:=n) fun i k hi=>h i k (by omega),show g n=g' n from funext fun k=>h n k (by omega)]
theorem qj5 {sz:Nat}{g:Nat→Nat→AV}(h:∀ i k,(g i k).one=true):∀ n,(flatG sz g n).all AV.one=true
  | 0=>rfl
  | n+1=>by
    simp only [flatG,List.all_append,qj5 h n,Bool.true_and]
    rw[List.all_eq_true]
    intro a ha
    obtain⟨i,hi⟩:=List.mem_iff_getElem?.1 ha
    rw[qc4] at hi
    split at hi
    · cases hi;exact h n _
    · cases hi
theorem qv3 (d:qai)(h0:0<d.nw)(hn:d.nw<1000)(st:St) :
    appendA T st 29 29 (.lit (.slice none 0 0)) (qcv d)=some (.sl st.n 0 d.nw 2 false,st.push (.cells none false (flatG 2 (womC d) d.nw))):=by
  obtain⟨b1,e1⟩:∃ b,T 29=some { desc:=.slice 31,size:=1,bytes:=24,zero:=[.slice none 0 0],flat:=b}:=⟨_,rfl⟩
  obtain⟨ti,e2,e3,e4,e5⟩:∃ ti,T 31=some ti∧ti.size=2∧ti.bytes=16∧ti.zero.length=2:=⟨_,rfl,rfl,rfl,rfl⟩
  have hall:=qj5 (sz:=2) (qv5 d) d.nw
  unfold appendA
  simp only [e1,e2,slCells,qcv,slLen,e3,e4,e5]
  rw[if_pos ⟨trivial,by decide⟩]
  simp only [Nat.zero_add]
  rw[if_neg (by rw[hall];simp;omega)]
  exact if_neg (by omega)
set_option maxHeartbeats 4000000 in
theorem qrd (d:qai)(h0:0<d.nw)(hw:d.nw≤4)(hl:d.nl≤4):Pure Try.prog 120 [qdp d] (.isl (d.nw+d.nl) 2 false (qky d)):=by
  obtain⟨O,hO⟩:∃ O:Ar,O=std:=⟨_,rfl⟩
  have hnat:∀ i:Nat,O.nat (Int.ofNat i)=i:=fun i=>by subst hO;rfl
  refine qad tok 3 Try.func120 en120 rfl ⟨qal d,trivial⟩ (Below.isl fun i k _ _=>qh1 d i k) ?_
  refine SW.qab tok hO (by cbv <;> rfl) (by trivial) ?_
  refine SW.qab tok hO (by cbv <;> rfl) (by trivial) ?_
  refine SW.seq (SW.runN tok hO 3 (by cbv <;> rfl) (by trivial) ?_)
  obtain⟨G0,hG0⟩:∃ G,G=flatG 2 (womC d) d.nw:=⟨_,rfl⟩
  refine qac.appA (st':=⟨[(1,.cells none false G0),(0,.cells none false (qgc d))],2⟩) tok (by cbv <;> rfl) (by rw[hG0];exact qv3 d h0 (by omega) _) ?_
  refine qac.run tok hO (by cbv <;> rfl) (by trivial) ?_
  have hlot:∀ i,i<d.nl→∀ a b,a=d.llo i→b=d.lhi i→flatG 2 (qky d) (d.nw+i)++[iV a,iV b]=flatG 2 (qky d) (d.nw+(i+1)):=fun i _ a b ha hb=>by
    show _=flatG 2 (qky d) (d.nw+i)++cellsFrom (qky d (d.nw+i)) 0 2
    have e:∀ k,qky d (d.nw+i) k=lotC d i (k+1):=fun k=>by
      unfold qky;rw[if_neg (by omega),show d.nw+i - d.nw=i by omega]
    have:cellsFrom (qky d (d.nw+i)) 0 2=[qky d (d.nw+i) 0,qky d (d.nw+i) 1]:=rfl
    rw[this,e,e,ha,hb];rfl
  refine SW.seq (SW.mono (Q:=fun e fm st=>e=.normal∧∃ g A,fm=⟨⟨24,g⟩,[]⟩∧g 3=.isl (d.nw+d.nl) 2 false A∧Eqv (.isl (d.nw+d.nl) 2 false A) (.isl (d.nw+d.nl) 2 false (qky d))∧st=⟨[(0,.cells none false (qgc d))],3⟩) ?_ ?_)
  · refine SW.qab tok hO (by cbv <;> rfl) (by trivial) ?_
    refine(SW.block (SW.qmn (fun i:Nat=>⟨⟨24,getT [(1,.ptr 0 0),(3,.sl 2 0 (d.nw+i) 2 false),(11,qdg d),(12,iV d.nl),(13,iV i)]⟩,[]⟩) (fun i=>⟨[(2,.cells none false (flatG 2 (qky d) (d.nw+i))),(0,.cells none false (qgc d))],3⟩) (fun i=>d.nl - i) (fun i=>i≤d.nl) 0 (Nat.zero_le _) (qek 2 1) ?_ fun i hi=>?_))
    · refine qbx.upD rfl rfl (by simp) (by show 2≤2;omega) (by simp) (by show 2≤3;omega) ⟨qaf.ptr (by omega),qaf.sl (by omega),qaf.closed (qa0 d),qaf.closed Below.lit,qaf.closed Below.lit,trivial⟩
        ⟨⟨by omega,_,rfl,.cells (qay.of_eq (hG0.trans (qd5 fun i k hi=>by unfold qky;rw[if_pos (by omega)])) (qar (qh1 d) _)),.inl rfl⟩,⟨by omega,_,rfl,.cells (qay.closed (qa4 d)),.inr rfl⟩,trivial⟩
    obtain⟨G,hG⟩:∃ G,G=flatG 2 (qky d) (d.nw+i):=⟨_,rfl⟩
    rw[←hG]
    obtain⟨N,hN⟩:∃ N,N=d.nw+i:=⟨_,rfl⟩
    rw[←hN] at hG ⊢
    refine SW.qab tok hO (by cbv <;> rfl) (by trivial) ?_
    refine SW.seq (SW.qa6 (by cbv <;> rfl) (fun h=>SW.skip ?_) (fun h=>?_))
    · have hlt:i<d.nl:=by subst hO;simpa[std] using h
      have hi0:(0:Int)≤Int.ofNat i:=Int.natCast_nonneg i
      refine SW.seq (SW.block ?_)
      refine SW.qab tok hO (by cbv <;> rfl) ?_ ?_
      · exact⟨hi0,Int.ofNat_lt.2 hlt⟩
      refine SW.runN tok hO 4 (by cbv <;> rfl) (by trivial) ?_
      refine qac.qeh (g:=qky d) tok (by cbv <;> rfl) (by rfl) (by rfl) hG (by kernel_rfl) (by rfl) (by rfl) (by omega) fun G' hG'=>?_
      refine qac.run tok hO (by cbv <;> rfl) (by trivial) ?_
      refine SW.run tok hO (by cbv <;> rfl) (by trivial) ?_
      refine⟨i+1,by omega,by omega,qek 2 5,?_⟩
      refine qbx.upD rfl rfl (by simp) (by show 2≤2;omega) (by simp) (by show 2≤3;omega) ⟨qaf.ptr (by omega),by rw[show d.nw+(i+1)=N+1 by omega];exact qaf.sl (by omega),qaf.closed (qa0 d),qaf.closed Below.lit,qaf.inc hO (by omega),trivial⟩
        ⟨⟨by omega,_,rfl,.cells (qay.of_eq ((by rw[hN] at hG';exact hG':_=_).trans (hlot i hlt _ _ (by subst hO;rfl) (by subst hO;rfl))) (qar (qh1 d) _)),.inl rfl⟩,⟨by omega,_,rfl,.cells (qay.closed (qa4 d)),.inr rfl⟩,trivial⟩
    · have hz:d.nl=i:=by
        have:d.nl≤i:=by subst hO;simpa[std] using h
        omega
      refine SW.qe7 (fun j=>Nat.beq j 2) 3 (by rfl) (SW.exit ⟨rfl,_,(fun i' k=>frz [(2,.cells none false G),(0,.cells none false (qgc d))] (fun j=>Nat.beq j 2) 2 (G.getD (0+i'*2+k) .any)),rfl,?_,?_,rfl⟩)
      · rw[show d.nw+d.nl=N by omega]
        exact qcc (fm:=none) rfl rfl (by rw[hG,qaj];omega)
      · refine Eqv.isl rfl fun i' k hi' hk=>?_
        rw[hG]
        exact Eqv.of (qcn (by omega) hk (by unfold qky womC lotC;(repeat' split);all_goals rfl))
  · rintro e fm st ⟨rfl,g,A,rfl,hg,hA,rfl⟩
    obtain⟨M,hM⟩:∃ M,M=d.nw+d.nl:=⟨_,rfl⟩
    rw[←hM] at hg hA ⊢
    rw[←qav hg]
    refine SW.qab tok hO (by cbv <;> rfl) (by trivial) ?_
    exact SW.ret ⟨_,_,rfl,rfl,hA⟩
def rngC (lo hi:Nat→Int)(i k:Nat):AV:=match k with
  | 0=>iV (lo i)
  | _=>iV (hi i)
def qai.ulo (d:qai)(i:Nat):Int:=if i<d.nw then d.wlo i else d.llo (i - d.nw)
def qai.uhi (d:qai)(i:Nat):Int:=if i<d.nw then d.whi i else d.lhi (i - d.nw)
theorem qjd (d:qai)(h0:0<d.nw)(hw:d.nw≤4)(hl:d.nl≤4):Pure Try.prog 120 [qdp d] (.isl (d.nw+d.nl) 2 false (rngC d.ulo d.uhi)) :=
  (qrd d h0 hw hl).res (Eqv.isl rfl fun i k hi hk=>Eqv.of (by
    match k,hk with
    | 0,_=>by_cases hc:i<d.nw <;> simp[qky,rngC,qai.ulo,qai.uhi,womC,lotC,hc]
    | 1,_=>by_cases hc:i<d.nw <;> simp[qky,rngC,qai.ulo,qai.uhi,womC,lotC,hc]))
def prN (lo hi:Nat→Int):Nat→Int
  | 0=>1
  | i+1=>qic (prN lo hi i) (qds (lo i) (hi i))
def qgb (lo hi:Nat→Int)(M:Nat):Bool:=!(qdz M fun i=>decide (prN lo hi (i+1)≤2000))
theorem qre (d:qai)(h0:0<d.nw)(hw:d.nw≤4)(hl:d.nl≤4):Pure Try.prog 87 [qdp d] (.sb (qgb d.ulo d.uhi (d.nw+d.nl))):=by
  obtain⟨O,hO⟩:∃ O:Ar,O=std:=⟨_,rfl⟩
  have hnat:∀ i:Nat,O.nat (Int.ofNat i)=i:=fun i=>by subst hO;rfl
  have hu:=qjd d h0 hw hl
  generalize d.ulo=U at hu
  generalize d.uhi=V at hu
  have hM8:d.nw+d.nl≤8:=by omega
  generalize d.nw+d.nl=M at hu hM8
  refine qad tok 3 Try.func87 en87 rfl ⟨qal d,trivial⟩ Below.sb ?_
  refine SW.qab tok hO (by cbv <;> rfl) (by trivial) ?_
  refine SW.qab tok hO (by cbv <;> rfl) (by trivial) ?_
  refine SW.seq ?_
  refine SW.qab tok hO (by cbv <;> rfl) (by trivial) ?_
  refine qac.qas hu (by cbv <;> rfl) ?_
  refine qac.run tok hO (by cbv <;> rfl) (by trivial) ?_
  refine(SW.block (SW.qhk (fun i:Nat=>⟨⟨20,getT [(3,iV (prN U V i)),(7,.isl M 2 false (rngC U V)),(8,iV M),(9,iV i)]⟩,[]⟩) (fun _=>⟨[],1⟩) (fun i=>M - i) (fun i=>i≤M∧∀ j,j<i→prN U V (j+1)≤2000) 0
    (fun _=>rfl) ⟨Nat.zero_le _,fun j hj=>absurd hj (Nat.not_lt_zero j)⟩ (qdt.by rfl rfl (by simp) (Nat.le_refl _) (Nat.le_refl _) ⟨⟨rfl,.inl rfl⟩,⟨rfl,.inl rfl⟩,⟨rfl,.inl rfl⟩,⟨rfl,.inl rfl⟩,trivial⟩ trivial) fun i ⟨hi,hall⟩=>?_))
  generalize hacc:prN U V i=acc
  refine SW.qab tok hO (by cbv <;> rfl) (by trivial) ?_
  refine SW.seq (SW.qa6 (by cbv <;> rfl) (fun h=>SW.skip ?_) (fun h=>SW.exit ?_))
  · have hlt:i<M:=by subst hO;simpa[std] using h
    have hi0:(0:Int)≤Int.ofNat i:=Int.natCast_nonneg i
    refine SW.seq (SW.block ?_)
    refine SW.qab tok hO (by cbv <;> rfl) ?_ ?_
    · exact⟨hi0,Int.ofNat_lt.2 hlt⟩
    refine SW.qab tok hO (by cbv <;> rfl) (by trivial) ?_
    refine qac.qo5 (size_ok (U (O.nat (Int.ofNat i))) (V (O.nat (Int.ofNat i)))) (by cbv <;> rfl) fun v hv=>?_
    refine qac.run tok hO (by cbv <;> rfl) (by trivial) ?_
    refine SW.qab tok hO (by cbv <;> rfl) (by trivial) ?_
    have hnew:O.bin .mul .i64 acc v=prN U V (i+1):=by
      subst hO;subst hv;subst hacc;rfl
    refine SW.qa6 (by cbv <;> rfl) (fun h2=>?_) (fun h2=>SW.skip ?_)
    · refine SW.qab tok hO (by cbv <;> rfl) (by trivial) ?_
      refine SW.ret ⟨_,_,rfl,rfl,Eqv.bool ?_⟩
      have h3:2000<prN U V (i+1):=by rw[←hnew];subst hO;simpa[std] using h2
      unfold qgb qdz
      symm
      rw[Bool.not_eq_true',decide_eq_false_iff_not]
      intro hq
      have:=hq i hlt
      simp at this;omega
    · have h3:prN U V (i+1)≤2000:=by rw[←hnew];subst hO;simpa[std] using h2
      refine SW.run tok hO (by cbv <;> rfl) (by trivial) ?_
      refine⟨i+1,by omega,⟨by omega,fun j hj=>?_⟩,qdt.by rfl rfl (by simp) (Nat.le_refl _) (by show 1≤2;omega) ⟨⟨by show AV.lit (.int .i64 (O.bin .mul .i64 acc v))=_;rw[hnew];rfl,.inr Below.lit⟩,⟨rfl,.inr (Below.up (m:=0) (Below.isl fun i k _ _=>by unfold rngC;split <;> exact Below.lit))⟩,⟨rfl,.inr Below.lit⟩,⟨qci hO (by omega),.inr Below.lit⟩,trivial⟩ trivial⟩
      rcases Nat.lt_succ_iff_lt_or_eq.1 hj with hj | rfl
      · exact hall j hj
      · exact h3
  · refine SW.qab tok hO (by cbv <;> rfl) (by trivial) ?_
    have hge:M≤i:=by subst hO;simpa[std] using h
    refine SW.ret ⟨_,_,rfl,rfl,Eqv.bool ?_⟩
    unfold qgb qdz
    symm
    rw[Bool.not_eq_false',decide_eq_true_eq]
    exact fun j hj=>decide_eq_true (hall j (by omega))
def qai.check (d:qai):Int:=if d.qix then 3 else if d.qdr then(if qgb d.ulo d.uhi (d.nw+d.nl) then 3 else 0) else 1
theorem qg6 (d:qai)(hs:d.small):Pure Try.prog 40 [qdp d] (iV d.check):=by
  obtain⟨O,hO⟩:∃ O:Ar,O=std:=⟨_,rfl⟩
  have e1:=qrf d
  have e2:=qv8 d hs
  have hlong:d.qix=false→d.nw≤4∧d.nl≤4:=fun h=>by
    simp only [qai.qix,Bool.or_eq_false_iff,decide_eq_false_iff_not,Nat.not_lt] at h;omega
  have hval:d.qdr=true→0<d.nw:=fun h=>by
    simp only [qai.qdr,Bool.and_eq_true,decide_eq_true_eq] at h;exact h.1.1.1.2
  have hc:d.check=if d.qix then 3 else if d.qdr then(if qgb d.ulo d.uhi (d.nw+d.nl) then 3 else 0) else 1:=rfl
  have e3:=qre d
  generalize qgb d.ulo d.uhi (d.nw+d.nl)=MM at hc e3
  generalize d.qix=L at e1 hlong hc
  generalize d.qdr=W at e2 hval hc
  refine qad tok 3 Try.func40 en40 rfl ⟨qal d,trivial⟩ Below.lit ?_
  refine SW.qab tok hO (by cbv <;> rfl) (by trivial) ?_
  refine SW.seq (SW.block ?_)
  refine SW.qab tok hO (by cbv <;> rfl) (by trivial) ?_
  refine qac.qas e1 (by cbv <;> rfl) ?_
  refine qac.run tok hO (by cbv <;> rfl) (by trivial) ?_
  refine SW.qa6 (by cbv <;> rfl) (fun h1=>?_) (fun h1=>?_)
  · refine SW.qab tok hO (by cbv <;> rfl) (by trivial) ?_
    refine SW.ret ⟨_,_,rfl,rfl,Eqv.int ?_⟩
    rw[hc,h1];rfl
  refine SW.qab tok hO (by cbv <;> rfl) (by trivial) ?_
  refine qac.qas e2 (by cbv <;> rfl) ?_
  have hnot:O.not W=!W:=by subst hO;rfl
  refine qac.run tok hO (by cbv <;> rfl) (by trivial) ?_
  refine SW.qa6 (by cbv <;> rfl) (fun h2=>?_) (fun h2=>?_)
  · have hw:W=false:=by have:=hnot.symm.trans h2;simpa using this
    refine SW.qab tok hO (by cbv <;> rfl) (by trivial) ?_
    refine SW.ret ⟨_,_,rfl,rfl,Eqv.int ?_⟩
    rw[hc,h1,hw];rfl
  have hw:W=true:=by have:=hnot.symm.trans h2;simpa using this
  have e3:=e3 (hval hw) (hlong h1).1 (hlong h1).2
  refine SW.qab tok hO (by cbv <;> rfl) (by trivial) ?_
  refine qac.qas e3 (by cbv <;> rfl) ?_
  refine qac.run tok hO (by cbv <;> rfl) (by trivial) ?_
  refine SW.qa6 (by cbv <;> rfl) (fun h3=>?_) (fun h3=>SW.skip ?_)
  · refine SW.qab tok hO (by cbv <;> rfl) (by trivial) ?_
    refine SW.ret ⟨_,_,rfl,rfl,Eqv.int ?_⟩
    rw[hc,h1,hw,h3];rfl
  · refine SW.qab tok hO (by cbv <;> rfl) (by trivial) ?_
    refine SW.ret ⟨_,_,rfl,rfl,Eqv.int ?_⟩
    rw[hc,h1,hw,h3];rfl
end Go.Fz
namespace Go.Fz
open Go.Proofs
set_option maxRecDepth 100000
def qai.fits (d:qai)(t:qlq):Bool:=decide (t.nf=d.nw)&&decide (t.ns=d.nl)&&qdz t.nf (fun i=>inB (t.fe i) (d.wlo i) (d.whi i))&&qdz t.ns (fun i=>inB (t.st i) (d.llo i) (d.lhi i))
def stemN (d:qai)(st:Nat→Int)(w:Int):Nat→Int
  | 0=>0
  | i+1=>if d.lw i=w then qin (stemN d st w i) (st i) else stemN d st w i
def qro (f s:Int):AV:=.agg [iV f,iV s]
theorem qtp (d:qai)(t:qlq)(w:Nat)(hw:w<t.nf)(hs:t.ns≤d.nl)(hn:t.ns<1000):Pure Try.prog 96 [qdp d,truV t,iV w] (qro (t.fe w) (stemN d t.st w t.ns)):=by
  obtain⟨O,hO⟩:∃ O:Ar,O=std:=⟨_,rfl⟩
  have hw0:(0:Int)≤Int.ofNat w:=Int.natCast_nonneg w
  refine qad tok 3 Try.func96 en96 rfl ⟨qal d,qkz t,Below.lit,trivial⟩ (Below.agg (qb2.ok ⟨Below.lit,Below.lit,trivial⟩)) ?_
  refine SW.qab tok hO (by cbv <;> rfl) (by trivial) ?_
  refine SW.qab tok hO (by cbv <;> rfl) ?_ ?_
  · exact⟨hw0,Int.ofNat_lt.2 hw⟩
  have hfe:t.fe (O.nat (Int.ofNat w))=t.fe w:=by subst hO;rfl
  refine SW.seq ?_
  refine SW.qab tok hO (by cbv <;> rfl) (by trivial) ?_
  refine(SW.block (SW.qhk (fun i:Nat=>⟨⟨39,getT [(2,iV w),(3,.ptr 0 0),(6,.ptr 2 0),(7,.ptr 3 0),(17,qap t.ns t.es t.st),(18,iV t.ns),(19,iV i)]⟩,[]⟩)
    (fun i=>⟨[(3,.cells none false [iV (t.fe w),iV (stemN d t.st w i)]),(2,.cells none false [iV 0,iV 0]),(0,.cells none false (qgc d))],4⟩) (fun i=>t.ns - i) (fun i=>i≤t.ns) 0
    (fun _=>rfl) (Nat.zero_le _) (qdt.by rfl rfl (by simp) (Nat.le_refl _) (Nat.le_refl _) ⟨⟨rfl,.inl rfl⟩,⟨rfl,.inl rfl⟩,⟨rfl,.inl rfl⟩,⟨rfl,.inl rfl⟩,⟨rfl,.inl rfl⟩,⟨rfl,.inl rfl⟩,⟨rfl,.inl rfl⟩,trivial⟩ ⟨⟨by subst hO;rfl,by omega,.inl rfl⟩,⟨rfl,by omega,.inl rfl⟩,⟨rfl,by omega,.inl rfl⟩,trivial⟩) fun i hi=>?_))
  generalize hacc:stemN d t.st w i=acc
  obtain⟨F,hF⟩:∃ F,F=t.fe w:=⟨_,rfl⟩
  rw[←hF]
  refine SW.qab tok hO (by cbv <;> rfl) (by trivial) ?_
  refine SW.seq (SW.qa6 (by cbv <;> rfl) (fun h=>SW.skip ?_) (fun h=>SW.exit ?_))
  · have hlt:i<t.ns:=by subst hO;simpa[std] using h
    have hi0:(0:Int)≤Int.ofNat i:=Int.natCast_nonneg i
    refine SW.seq (SW.block ?_)
    refine SW.qab tok hO (by cbv <;> rfl) ?_ ?_
    · exact⟨hi0,Int.ofNat_lt.2 hlt⟩
    refine SW.qab tok hO (by cbv <;> rfl) ?_ ?_
    · exact⟨hi0,Int.ofNat_lt.2 (show i<d.nl by omega)⟩
    refine SW.qa6 (by cbv <;> rfl) (fun h2=>?_) (fun h2=>SW.skip ?_)
    · refine SW.run tok hO (by cbv <;> rfl) (by trivial) ?_
      refine SW.run tok hO (by cbv <;> rfl) (by trivial) ?_
      have hwl:d.lw i=w:=by subst hO;simpa[std] using h2
      have e:stemN d t.st w (i+1)=qin acc (t.st i):=by simp only [stemN,hwl,if_true,hacc]
      refine⟨i+1,by omega,by omega,qdt.by rfl rfl (by simp) (Nat.le_refl _) (Nat.le_refl _) ⟨⟨rfl,.inl rfl⟩,⟨rfl,.inl rfl⟩,⟨rfl,.inl rfl⟩,⟨rfl,.inl rfl⟩,⟨rfl,.inl rfl⟩,⟨rfl,.inl rfl⟩,⟨qci hO (by omega),.inl rfl⟩,trivial⟩
        ⟨⟨congrArg (fun l=>some (AObj.cells none false l)) ?_,by omega,.inl rfl⟩,⟨rfl,by omega,.inl rfl⟩,⟨rfl,by omega,.inl rfl⟩,trivial⟩⟩
      rw[e];subst hO;rfl
    · refine SW.run tok hO (by cbv <;> rfl) (by trivial) ?_
      have hwl:¬ d.lw i=w:=by subst hO;simpa[std] using h2
      have e:stemN d t.st w (i+1)=acc:=by simp only [stemN];rw[if_neg hwl,hacc]
      refine⟨i+1,by omega,by omega,qdt.by rfl rfl (by simp) (Nat.le_refl _) (Nat.le_refl _) ⟨⟨rfl,.inl rfl⟩,⟨rfl,.inl rfl⟩,⟨rfl,.inl rfl⟩,⟨rfl,.inl rfl⟩,⟨rfl,.inl rfl⟩,⟨rfl,.inl rfl⟩,⟨qci hO (by omega),.inl rfl⟩,trivial⟩
        ⟨⟨congrArg (fun l=>some (AObj.cells none false l)) ?_,by omega,.inl rfl⟩,⟨rfl,by omega,.inl rfl⟩,⟨rfl,by omega,.inl rfl⟩,trivial⟩⟩
      rw[e];rfl
  · have hz:i=t.ns:=by
      have:t.ns≤i:=by subst hO;simpa[std] using h
      omega
    refine SW.qab tok hO (by cbv <;> rfl) (by trivial) ?_
    refine SW.ret ⟨_,_,rfl,rfl,Eqv.agg (.cons (Eqv.int rfl) (.cons (Eqv.int ?_) .nil))⟩
    rw[←hacc,hz]
def qh9 (a b:Int):Int:=wrp .i64 (a.tdiv b)
theorem qlk (f s:Int)(hf:f≠0):Pure Try.prog 62 [qro f s] (iV (qh9 s f)):=by
  obtain⟨O,hO⟩:∃ O:Ar,O=std:=⟨_,rfl⟩
  refine qad tok 3 Try.func62 en62 rfl ⟨Below.agg (qb2.ok ⟨Below.lit,Below.lit,trivial⟩),trivial⟩ Below.lit ?_
  refine SW.qab tok hO (by cbv <;> rfl) (by trivial) ?_
  refine SW.qab tok hO (by cbv <;> rfl) (by exact hf) ?_
  exact SW.ret ⟨_,_,rfl,rfl,Eqv.int (by subst hO;rfl)⟩
theorem qg0 (f s:Int)(hf:f≠0):Pure Try.prog 63 [qro f s] (iV (s.tmod f)):=by
  obtain⟨O,hO⟩:∃ O:Ar,O=std:=⟨_,rfl⟩
  refine qad tok 3 Try.func63 en63 rfl ⟨Below.agg (qb2.ok ⟨Below.lit,Below.lit,trivial⟩),trivial⟩ Below.lit ?_
  refine SW.qab tok hO (by cbv <;> rfl) (by trivial) ?_
  refine SW.qab tok hO (by cbv <;> rfl) (by exact hf) ?_
  exact SW.ret ⟨_,_,rfl,rfl,Eqv.int (by subst hO;rfl)⟩
end Go.Fz
