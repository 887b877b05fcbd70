/- Own work of the verifier of watercress: EvE, EvF, EvG, EvH. -/
import Derived.Test.YtpefamheopplnaaMc1
import Derived.Laws.Tables
import Derived.ChangeKeysEq
set_option linter.unusedVariables false
set_option linter.unusedSimpArgs false
namespace Go.Ev
def natOf:AV→Option Nat
 | .lit (.int _ n)=>if 0≤n then some n.toNat else none
 | _=>none
def natOr (d:Nat):Option AV→Option Nat
 | none=>some d
 | some a=>natOf a
def sliceA (T:Ti)(h:Hp)(t:TypeId)(x:AV)(lo hi mx:Option AV):Option AV :=
 match T t with
 | none=>none
 | some i =>
  match i.desc,x with
  | .slice e,.sl id off len sz ex=>match T e with
   | some j=>if j.size=sz then
     match natOr 0 lo,natOr len hi,mx with
     | some l,some u,none=>if l≤u∧u≤len∧(l=0∨l<len) then some (.sl id (off+l*sz) (u-l) sz (ex&&u == len)) else none
     | some l,some u,some m=>match hi,natOf m with
      | some _,some k=>if l≤u∧u≤k∧k≤len then some (if k=l then .sl id off 0 sz true else .sl id (off+l*sz) (u-l) sz (u == k)) else none
      | _,_=>none
     | _,_,_=>none
    else none
   | none=>none
  | .slice e,.lit (.slice none 0 0)=>match T e with
   | some _=>match natOr 0 lo,natOr 0 hi,mx with
    | some 0,some 0,none=>some (.lit (.slice none 0 0))
    | some 0,some 0,some m=>match hi,natOf m with
     | some _,some 0=>some (.lit (.slice none 0 0))
     | _,_=>none
    | _,_,_=>none
   | none=>none
  | .array n e,.ptr id off=>match T e,h.get id with
   | some j,some (.cells _ false cs) =>
    match natOr 0 lo,natOr n hi,mx with
    | some l,some u,none=>if l≤u∧u≤n∧(l=0∨l<n)∧off+n*j.size≤cs.length then some (.sl id (off+l*j.size) (u-l) j.size (u == n)) else none
    | _,_,_=>none
   | _,_=>none
  | _,_=>none
section
variable {P:Program}{T:Ti}
theorem Tu {φ:Fi}{a:AV}{v:Value}{n:Nat}(h:natOf a=some n)(hv:VR φ a v):∃ k,v=.int k (n:Int):=by
 unfold natOf at h
 split at h
 ·rename_i k m
  split at h
  ·cases h;obtain rfl:=hv.Au;exact⟨k,by rw[Int.toNat_of_nonneg (by assumption)]⟩
  ·cases h
 ·cases h
theorem Cr {φ:Fi}{x:AV}{v:Value}{n y:Nat}{c:BoundsCode}(h:natOf x=some n)(hv:VR φ x v)(hy:n≤y)(w:World):(Instr.sliceBound v y c).run P w=.ok n w:=by
 obtain⟨k,rfl⟩:=Tu h hv
 have:(0:Int)≤(n:Int)∧(n:Int)≤(y:Int):=⟨by omega,by omega⟩
 simp[Instr.sliceBound,asIntOf,this]
theorem Cj {φ:Fi}{ρa:Operand→AV}{ρ:Operand→Value}(hρ:OpR φ ρa ρ){s:Bool}{len cap l u m:Nat}{lo hi mx:Option Operand}(h1:natOr 0 (lo.map ρa)=some l)(h2:natOr len (hi.map ρa)=some u)
  (h3:(mx=none∧m=cap)∨(∃ x,mx=some x∧natOf (ρa x)=some m∧hi.isSome))(hl:l≤u)(hu:u≤m)(hm:m≤cap)(w:World) :
  (Instr.sliceBounds s len cap (lo.map ρ) (hi.map ρ) (mx.map ρ)).run P w=.ok (l,u,m) w:=by
 unfold Instr.sliceBounds
 rcases h3 with ⟨rfl,rfl⟩|⟨x,rfl,hx,hh⟩
 ·cases hi with
  | none =>
   simp only [Option.map_none,natOr,Option.some.injEq] at h2
   subst h2
   cases lo with
   | none=>simp only [Option.map_none,natOr,Option.some.injEq] at h1;subst h1;simp
   | some a=>simp only [Option.map_some,natOr] at h1;simp[Cr (P:=P) h1 (hρ a) hl w]
  | some b =>
   simp only [Option.map_some,natOr] at h2
   cases lo with
   | none=>simp only [Option.map_none,natOr,Option.some.injEq] at h1;subst h1;simp[Cr (P:=P) h2 (hρ b) hu w]
   | some a=>simp only [Option.map_some,natOr] at h1;simp[Cr (P:=P) h1 (hρ a) hl w,Cr (P:=P) h2 (hρ b) hu w]
 ·cases hi with
  | none=>cases hh
  | some b =>
   simp only [Option.map_some,natOr] at h2
   cases lo with
   | none=>simp only [Option.map_none,natOr,Option.some.injEq] at h1;subst h1;simp[Cr (P:=P) h2 (hρ b) hu w,Cr (P:=P) hx (hρ x) hm w]
   | some a=>simp only [Option.map_some,natOr] at h1;simp[Cr (P:=P) h1 (hρ a) hl w,Cr (P:=P) h2 (hρ b) hu w,Cr (P:=P) hx (hρ x) hm w]
theorem Sx (hT:TOk P T){φ:Fi}{st:St}{w:World}{ρa:Operand→AV}{ρ:Operand→Value}{t:TypeId}{x:Operand}{lo hi mx:Option Operand}{r:AV}(hr:Rel φ st w)(hρ:OpR φ ρa ρ)
  (h:sliceA T st.h t (ρa x) (lo.map ρa) (hi.map ρa) (mx.map ρa)=some r) :
  ∃ u,VR φ r u∧∀ w',(Instr.sliceAt t (ρ x) (lo.map ρ) (hi.map ρ) (mx.map ρ)).run P w'=.ok u w':=by
 have hadd:∀ (b o n:Nat),Addr.add ⟨b,o,none⟩ n=⟨b,o+n,none⟩:=fun b o n=>by unfold Addr.add;split<;>simp_all
 unfold sliceA at h
 split at h
 ·cases h
 ·rename_i i hi'
  split at h
  ·rename_i e id off len sz ex hd hx
   split at h
   ·rename_i j hj
    split at h
    ·rename_i hsz
     subst hsz
     have hxv:=hρ x
     rw[hx] at hxv
     obtain⟨cap,hv,hid,hcap,hex,hbnd⟩:=hxv.Dy
     split at h
     ·rename_i l u h1 h2 h3
      split at h
      ·rename_i hc
       cases h
       obtain⟨c1,c2,c3⟩:=hc
       have hmx:mx=none:=by cases mx<;>simp_all
       subst hmx
       have hb:=fun w'=>Cj (P:=P) (s:=true) (cap:=cap) (m:=cap) hρ h1 h2 (.inl ⟨rfl,rfl⟩) c1 (by omega) (Nat.le_refl _) w'
       refine⟨.slice (some ⟨(φ.f id).b,(φ.f id).o+(off+l*j.size),none⟩) (u-l) (cap-l),.sl id (off+l*j.size) (u-l) j.size _ (cap-l) hid (by omega) (fun he=>?_) ?_,fun w'=>?_⟩
       ·simp only [Bool.and_eq_true,beq_iff_eq] at he
        have:=hex he.1
        omega
       ·have:l*j.size+(cap-l)*j.size=cap*j.size:=by rw[←Nat.add_mul];congr 1;omega
        omega
       ·simp only [Instr.sliceAt,Sem.run_bind,Ao hT hi',hd,Result.andThen,Instr.slice,hv,hb w',Av hT hj,Sem.run_pure]
        by_cases hl:cap=l
        ·have hl0:l=0:=by omega
         have hc0:cap=0:=by omega
         subst hl0;subst hc0
         simp
        ·rw[if_neg hl]
         simp[hadd,Nat.add_assoc]
      ·cases h
     ·rename_i l u m h1 h2 h3
      split at h
      ·rename_i b k hb hk
       split at h
       ·rename_i hc
        cases h
        obtain⟨c1,c2,c3⟩:=hc
        obtain⟨y,rfl,hy⟩:∃ y,mx=some y∧ρa y=m:=by cases mx<;>simp_all
        rw[←hy] at hk
        have hhi:hi.isSome:=by cases hi<;>simp_all
        have hb':=fun w'=>Cj (P:=P) (s:=true) (cap:=cap) hρ h1 h2 (.inr ⟨y,rfl,hk,hhi⟩) c1 c2 (by omega) w'
        by_cases hl:k=l
        ·subst hl
         rw[if_pos rfl]
         refine⟨.slice (some ⟨(φ.f id).b,(φ.f id).o+off,none⟩) 0 0,.sl id off 0 j.size true 0 hid (Nat.le_refl _) (fun _=>rfl) (by omega),fun w'=>?_⟩
         simp only [Instr.sliceAt,Sem.run_bind,Ao hT hi',hd,Result.andThen,Instr.slice,hv,hb' w',Av hT hj,Sem.run_pure,if_true]
         simp;omega
        ·rw[if_neg hl]
         refine⟨.slice (some ⟨(φ.f id).b,(φ.f id).o+(off+l*j.size),none⟩) (u-l) (k-l),.sl id (off+l*j.size) (u-l) j.size _ (k-l) hid (by omega) (fun he=>?_) ?_,fun w'=>?_⟩
         ·simp only [beq_iff_eq] at he;omega
         ·have:l*j.size+(k-l)*j.size=k*j.size:=by rw[←Nat.add_mul];congr 1;omega
          have h5:k*j.size≤cap*j.size:=Nat.mul_le_mul_right _ (by omega)
          omega
         ·simp only [Instr.sliceAt,Sem.run_bind,Ao hT hi',hd,Result.andThen,Instr.slice,hv,hb' w',Av hT hj,Sem.run_pure]
          rw[if_neg hl]
          simp[hadd,Nat.add_assoc]
       ·cases h
      ·cases h
     ·cases h
    ·cases h
   ·cases h
  ·rename_i e hd hx
   split at h
   ·rename_i j hj
    have hv:ρ x=.slice none 0 0:=by have:=hρ x;rw[hx] at this;exact this.Au
    split at h
    ·rename_i h1 h2 h3
     cases h
     have hmx:mx=none:=by cases mx<;>simp_all
     subst hmx
     have hb:=fun w'=>Cj (P:=P) (s:=true) (cap:=0) (m:=0) hρ h1 h2 (.inl ⟨rfl,rfl⟩) (Nat.le_refl _) (Nat.le_refl _) (Nat.le_refl _) w'
     refine⟨_,.lit _,fun w'=>?_⟩
     simp only [Instr.sliceAt,Sem.run_bind,Ao hT hi',hd,Result.andThen,Instr.slice,hv,hb w',Av hT hj,Sem.run_pure]
     simp
    ·rename_i m h1 h2 h3
     split at h
     ·rename_i b hb hk
      cases h
      obtain⟨y,rfl,hy⟩:∃ y,mx=some y∧ρa y=m:=by cases mx<;>simp_all
      rw[←hy] at hk
      have hhi:hi.isSome:=by cases hi<;>simp_all
      have hb':=fun w'=>Cj (P:=P) (s:=true) (cap:=0) hρ h1 h2 (.inr ⟨y,rfl,hk,hhi⟩) (Nat.le_refl _) (Nat.le_refl _) (Nat.le_refl _) w'
      refine⟨_,.lit _,fun w'=>?_⟩
      simp only [Instr.sliceAt,Sem.run_bind,Ao hT hi',hd,Result.andThen,Instr.slice,hv,hb' w',Av hT hj,Sem.run_pure]
      simp
     ·cases h
    ·cases h
   ·cases h
  ·rename_i n e id off hd hx
   split at h
   ·rename_i j fm cs hj ho
    have hxv:=hρ x
    rw[hx] at hxv
    obtain⟨hv,hid⟩:=hxv.Dn
    obtain⟨_,hblk⟩:=hr.obj id _ ho
    obtain⟨c,ct,hb0,hcn,hcl⟩:=hblk rfl
    split at h
    ·rename_i l u h1 h2 h3
     split at h
     ·rename_i hc
      cases h
      obtain⟨c1,c2,c3,c4⟩:=hc
      have hmx:mx=none:=by cases mx<;>simp_all
      subst hmx
      have hb:=fun w'=>Cj (P:=P) (s:=false) (len:=n) (cap:=n) (m:=n) hρ h1 h2 (.inl ⟨rfl,rfl⟩) c1 (by omega) (Nat.le_refl _) w'
      refine⟨.slice (some ⟨(φ.f id).b,(φ.f id).o+(off+l*j.size),none⟩) (u-l) (n-l),.sl id (off+l*j.size) (u-l) j.size _ (n-l) hid (by omega) (fun he=>?_) ?_,fun w'=>?_⟩
      ·simp only [beq_iff_eq] at he;omega
      ·have:l*j.size+(n-l)*j.size=n*j.size:=by rw[←Nat.add_mul];congr 1;omega
       omega
      ·simp only [Instr.sliceAt,Sem.run_bind,Ao hT hi',hd,Result.andThen,hv,Instr.sureAddr,hb w',Av hT hj,Sem.run_pure]
       by_cases hl:n=l
       ·have hl0:l=0:=by omega
        have hn0:n=0:=by omega
        subst hl0;subst hn0
        simp
       ·rw[if_neg hl]
        simp[hadd,Nat.add_assoc]
     ·cases h
    ·cases h
   ·cases h
  ·cases h
end
def placesA (T:Ti):List Field→Option (List (Nat × Nat))
 | []=>some []
 | f::fs=>match T f.type,placesA T fs with
  | some i,some r=>some ((f.offset,i.size)::r)
  | _,_=>none
def buildA (T:Ti)(t:TypeId)(parts:List (Nat × AV)):Option AV :=
 match T t with
 | none=>none
 | some i=>match i.desc with
  | .struct fs=>match placesA T fs.toList with
   | some places=>(fillA (fun k=>places[k]?) (i.zero.map .lit) parts).map .agg
   | none=>none
  | .array _ e=>match T e with
   | some j=>(fillA (fun k=>some (k*j.size,j.size)) (i.zero.map .lit) parts).map .agg
   | none=>none
  | _=>none
section
variable {P:Program}{T:Ti}
theorem Kj (hT:TOk P T):∀ (fs:List Field)(places:List (Nat × Nat)),placesA T fs=some places→fs.mapM (fun f=>(P.info? f.type).map fun i=>(f.offset,i.size))=some places
 | [],places,h=>by simp only [placesA,Option.some.injEq] at h;subst h;rfl
 | f::fs,places,h=>by
  simp only [placesA] at h
  split at h
  ·rename_i i r hi hr
   cases h
   obtain⟨ti,z,h1,h2,_⟩:=(hT _ i hi).info
   simp[List.mapM_cons,h1,h2,Kj hT fs r hr]
  ·cases h
theorem Uv (hT:TOk P T){φ:Fi}{ρa:Operand→AV}{ρ:Operand→Value}(hρ:OpR φ ρa ρ){t:TypeId}{parts:Array (Nat × Operand)}{r:AV}(h:buildA T t (parts.toList.map fun p=>(p.1,ρa p.2))=some r) :
  ∃ u,VR φ r u∧∀ w,(Instr.build t (parts.map fun(i,x)=>(i,ρ x))).run P w=.ok u w:=by
 have hpm:(Array.map (fun(x:Nat × Operand)=>(x.1,ρ x.2)) parts).toList=parts.toList.map fun p=>(p.1,ρ p.2):=by simp
 unfold buildA at h
 split at h
 ·cases h
 ·rename_i i hi
  obtain⟨ti,z,h1,h2,h3,h4,h5⟩:=(hT t i hi).info
  have hu:=(hT t i hi).und
  have hzl:VRL φ (i.zero.map .lit) z.cells.toList:=by rw[h5];exact VRL.lits _
  split at h
  ·rename_i fs hd
   split at h
   ·rename_i places hp
    rw[Option.map_eq_some_iff] at h
    obtain⟨cs,hf,rfl⟩:=h
    obtain⟨rs,g1,g2⟩:=Hy hρ parts.toList hzl hf
    refine⟨_,.agg g2,fun w=>run_build w t _ _ ?_⟩
    rw[hd] at hu
    simp only [Program.built,h1,hu,h4,Kj hT fs.toList places hp,hpm]
    simpa using g1
   ·cases h
  ·rename_i n e hd
   split at h
   ·rename_i j hj
    rw[Option.map_eq_some_iff] at h
    obtain⟨cs,hf,rfl⟩:=h
    obtain⟨rs,g1,g2⟩:=Hy hρ parts.toList hzl hf
    obtain⟨tj,zj,k1,k2,_⟩:=(hT e j hj).info
    refine⟨_,.agg g2,fun w=>run_build w t _ _ ?_⟩
    rw[hd] at hu
    simp only [Program.built,h1,hu,h4,k1,k2,hpm]
    simpa using g1
   ·cases h
  ·cases h
end
def eqFsA (T:Ti)(eq:TypeId→AV→AV→Option Bool)(xs ys:List AV):List Field→Option Bool
 | []=>some true
 | f::fs =>
  if f.name≠"_" then
   match partA T f.type xs f.offset,partA T f.type ys f.offset with
   | some a,some b=>match eq f.type a b with
    | some true=>eqFsA T eq xs ys fs
    | some false=>some false
    | none=>none
   | _,_=>none
  else eqFsA T eq xs ys fs
def eqIsA (T:Ti)(eq:TypeId→AV→AV→Option Bool)(e:TypeId)(sz:Nat)(xs ys:List AV):List Nat→Option Bool
 | []=>some true
 | i::is =>
  match partA T e xs (i*sz),partA T e ys (i*sz) with
  | some a,some b=>match eq e a b with
   | some true=>eqIsA T eq e sz xs ys is
   | some false=>some false
   | none=>none
  | _,_=>none
def eqA (T:Ti):Nat→TypeId→AV→AV→Option Bool
 | 0,_,_,_=>none
 | d+1,t,a,b =>
  match T t with
  | none=>none
  | some i=>match i.desc,a,b with
   | .bool,.lit (.bool x),.lit (.bool y)=>some (x == y)
   | .int _,.lit (.int k x),.lit (.int k' y)=>if k=k' then some (x == y) else none
   | .struct fs,.agg xs,.agg ys=>if i.flat then eqFsA T (eqA T d) xs ys fs.toList else none
   | .array n e,.agg xs,.agg ys=>match T e with
    | some j=>eqIsA T (eqA T d) e j.size xs ys (List.range n)
    | none=>none
   | _,_,_=>none
section
variable {P:Program}{T:Ti}
theorem Ln (hT:TOk P T){φ:Fi}{eq:TypeId→AV→AV→Option Bool}{D:Nat}(heq:∀ t a b u v r,VR φ a u→VR φ b v→eq t a b=some r→∀ w,(Op.equalIn D t u v).run P w=.ok r w)
  {xs ys:List AV}{us vs:List Value}(hx:VRL φ xs us)(hy:VRL φ ys vs):∀ (fs:List Field)(r:Bool),eqFsA T eq xs ys fs=some r→∀ w,(Op.eqFields D us.toArray vs.toArray fs).run P w=.ok r w
 | [],r,h,w=>by simp only [eqFsA,Option.some.injEq] at h;subst h;rfl
 | f::fs,r,h,w=>by
  simp only [eqFsA] at h
  simp only [Op.eqFields]
  split at h
  ·rename_i hn
   rw[if_pos hn]
   split at h
   ·rename_i a b ha hb
    obtain⟨u,hu,hru⟩:=Fs (P:=P) hT hx ha
    obtain⟨v,hv,hrv⟩:=Fs (P:=P) hT hy hb
    split at h
    ·rename_i hq
     simp[Sem.run_bind,hru,hrv,heq _ _ _ _ _ _ hu hv hq w,Result.andThen,Ln hT heq hx hy fs r h w]
    ·rename_i hq
     cases h
     simp[Sem.run_bind,hru,hrv,heq _ _ _ _ _ _ hu hv hq w,Result.andThen]
    ·cases h
   ·cases h
  ·rename_i hn
   rw[if_neg hn]
   exact Ln hT heq hx hy fs r h w
theorem Py (hT:TOk P T){φ:Fi}{eq:TypeId→AV→AV→Option Bool}{D:Nat}(heq:∀ t a b u v r,VR φ a u→VR φ b v→eq t a b=some r→∀ w,(Op.equalIn D t u v).run P w=.ok r w)
  {e:TypeId}{sz:Nat}{xs ys:List AV}{us vs:List Value}(hx:VRL φ xs us)(hy:VRL φ ys vs):∀ (is:List Nat)(r:Bool),eqIsA T eq e sz xs ys is=some r→∀ w,(Op.eqItems D e sz us.toArray vs.toArray is).run P w=.ok r w
 | [],r,h,w=>by simp only [eqIsA,Option.some.injEq] at h;subst h;rfl
 | i::is,r,h,w=>by
  simp only [eqIsA] at h
  simp only [Op.eqItems]
  split at h
  ·rename_i a b ha hb
   obtain⟨u,hu,hru⟩:=Fs (P:=P) hT hx ha
   obtain⟨v,hv,hrv⟩:=Fs (P:=P) hT hy hb
   split at h
   ·rename_i hq
    simp[Sem.run_bind,hru,hrv,heq _ _ _ _ _ _ hu hv hq w,Result.andThen,Py hT heq hx hy is r h w]
   ·rename_i hq
    cases h
    simp[Sem.run_bind,hru,hrv,heq _ _ _ _ _ _ hu hv hq w,Result.andThen]
   ·cases h
  ·cases h
theorem Jx (hT:TOk P T){φ:Fi}:∀ (d D:Nat)(t:TypeId)(a b:AV)(u v:Value)(r:Bool),d≤D→VR φ a u→VR φ b v→eqA T d t a b=some r→∀ w,(Op.equalIn D t u v).run P w=.ok r w
 | 0,_,_,_,_,_,_,_,_,_,_,h=>by cases h
 | d+1,D,t,a,b,u,v,r,hD,ha,hb,h=>by
  intro w
  obtain⟨D',rfl⟩:∃ D',D=D'+1:=⟨D-1,by omega⟩
  simp only [eqA] at h
  split at h
  ·cases h
  ·rename_i i hi
   have hu:=(hT t i hi).und
   split at h
   ·rename_i x y hd
    obtain rfl:=ha.Au
    obtain rfl:=hb.Au
    cases h
    exact run_equalIn_bool' w D' t x y (by rw[hu,hd])
   ·rename_i k0 k x k' y hd
    split at h
    ·rename_i hk;subst hk
     obtain rfl:=ha.Au
     obtain rfl:=hb.Au
     cases h
     exact run_equalIn_int w D' t k k0 x y (by rw[hu,hd])
    ·cases h
   ·rename_i fs xs ys hd
    split at h
    ·rename_i hf
     obtain⟨us,rfl,hx⟩:=ha.Bz
     obtain⟨vs,rfl,hy⟩:=hb.Bz
     have hfo:P.fieldsOf t=fs:=by simp[Program.fieldsOf,hu,hd]
     rw[run_equalIn_struct w D' t _ _ (by rw[hfo,hu,hd]) ((hT t i hi).flat hf).1,hfo]
     exact Ln hT (fun t a b u v r h1 h2 h3 w=>Jx hT d D' t a b u v r (by omega) h1 h2 h3 w) hx hy fs.toList r h w
    ·cases h
   ·rename_i n e xs ys hd
    split at h
    ·rename_i j hj
     obtain⟨us,rfl,hx⟩:=ha.Bz
     obtain⟨vs,rfl,hy⟩:=hb.Bz
     obtain⟨tj,zj,k1,k2,_⟩:=(hT e j hj).info
     rw[Go.run_equalIn_array w D' _ _ (by rw[hu,hd]) k1]
     have hc:P.cellsOf e=j.size:=by simp[Program.cellsOf,k1,k2]
     rw[hc]
     exact Py hT (fun t a b u v r h1 h2 h3 w=>Jx hT d D' t a b u v r (by omega) h1 h2 h3 w) hx hy (List.range n) r h w
    ·cases h
   ·cases h
end
theorem Pz {T:Ti}{φ:Fi}{t:TypeId}{i:TI}(hi:T t=some i)(hd:aggD i.desc=true){d:Nat}{a b:AV}{u v:Value}{r:Bool}(ha:VR φ a u)(hb:VR φ b v)(h:eqA T d t a b=some r) :
  ∃ us vs,u=.agg us∧v=.agg vs:=by
 cases d with
 | zero=>cases h
 | succ d =>
  simp only [eqA,hi] at h
  split at h
  ·rename_i hq;rw[hq] at hd;cases hd
  ·rename_i hq;rw[hq] at hd;cases hd
  ·obtain⟨us,rfl,_⟩:=ha.Bz
   obtain⟨vs,rfl,_⟩:=hb.Bz
   exact⟨_,_,rfl,rfl⟩
  ·obtain⟨us,rfl,_⟩:=ha.Bz
   obtain⟨vs,rfl,_⟩:=hb.Bz
   exact⟨_,_,rfl,rfl⟩
  ·cases h
def evG (T:Ti)(h:Hp)(ρ:Operand→AV)(o:Oper):Option AV :=
 match o.op with
 | .slice t x lo hi mx=>sliceA T h t (ρ x) (lo.map ρ) (hi.map ρ) (mx.map ρ)
 | .build t parts=>buildA T t (parts.toList.map fun p=>(p.1,ρ p.2))
 | .binOp .eql t x y _=>match T t with
  | some i=>if i.flat&&aggD i.desc then(eqA T 6 t (ρ x) (ρ y)).map fun b=>.lit (.bool b) else evL T h ρ o
  | none=>evL T h ρ o
 | .binOp .neq t x y _=>match T t with
  | some i=>if i.flat&&aggD i.desc then(eqA T 6 t (ρ x) (ρ y)).map fun b=>.lit (.bool !b) else evL T h ρ o
  | none=>evL T h ρ o
 | _=>evL T h ρ o
section
variable {P:Program}{T:Ti}
theorem Qz (hT:TOk P T){φ:Fi}{st:St}{w:World}{ρa:Operand→AV}{ρ:Operand→Value}{o:Oper}{r:AV}(hr:Rel φ st w)(hρ:OpR φ ρa ρ)(h:evG T st.h ρa o=some r) :
  ∃ u,VR φ r u∧∀ w',Same φ st.h w w'→(execOp ρ o).run P w'=.ok (.value u) w':=by
 unfold evG at h
 split at h
 ·rename_i t x lo hi mx hx
  obtain⟨u,h1,h2⟩:=Sx (P:=P) hT hr hρ h
  exact⟨u,h1,fun w' _=>by simp[execOp,hx,h2 w',Result.andThen]⟩
 ·rename_i t parts hx
  obtain⟨u,h1,h2⟩:=Uv (P:=P) hT hρ h
  exact⟨u,h1,fun w' _=>by simp only [execOp,hx,Sem.run_bind,h2 w',Result.andThen,Sem.run_pure]⟩
 ·rename_i t x y yt hx
  split at h
  ·rename_i i hi
   split at h
   ·rename_i hf
    simp only [Bool.and_eq_true] at hf
    rw[Option.map_eq_some_iff] at h
    obtain⟨b,hb,rfl⟩:=h
    obtain⟨us,vs,hu,hv⟩:=Pz hi hf.2 (hρ x) (hρ y) hb
    have hq:=Jx (P:=P) hT 6 10000 t _ _ _ _ b (by omega) (hρ x) (hρ y) hb
    refine⟨.bool b,.lit _,fun w' _=>?_⟩
    rw[hu,hv] at hq
    simp[execOp,hx,Sem.run_bind,hu,hv,run_eqGuard_agg w' _ t x y us vs ((hT t i hi).flat hf.1).2,run_eql_struct,hq w',Result.andThen]
   ·exact Ix hT hr hρ h
  ·exact Ix hT hr hρ h
 ·rename_i t x y yt hx
  split at h
  ·rename_i i hi
   split at h
   ·rename_i hf
    simp only [Bool.and_eq_true] at hf
    rw[Option.map_eq_some_iff] at h
    obtain⟨b,hb,rfl⟩:=h
    obtain⟨us,vs,hu,hv⟩:=Pz hi hf.2 (hρ x) (hρ y) hb
    have hq:=Jx (P:=P) hT 6 10000 t _ _ _ _ b (by omega) (hρ x) (hρ y) hb
    refine⟨.bool !b,.lit _,fun w' _=>?_⟩
    rw[hu,hv] at hq
    simp[execOp,hx,Sem.run_bind,hu,hv,run_eqGuard_agg w' _ t x y us vs ((hT t i hi).flat hf.1).2,run_neq_struct,hq w',Result.andThen]
   ·exact Ix hT hr hρ h
  ·exact Ix hT hr hρ h
 ·exact Ix hT hr hρ h
end
end Go.Ev
namespace Go.Ev
structure Fm where
 ts:List AV
 dm:List Nat
def Fm.put (f:Fm)(dst:Option Tmp)(v:AV):Fm :=
 match dst with
 | some d=>{ f with ts:=f.ts.set d v}
 | none=>f
structure Cz (φ:Fi)(f:Fm)(a:Act):Prop where
 ts:VRL φ f.ts a.tmps.toList
 dm:a.defers=f.dm.map fun id=>{ target:=.collected (φ.f id).b,args:=#[] }
 lt:∀ id∈f.dm,id<φ.n
theorem Cz.mono {φ φ':Fi}{f:Fm}{a:Act}(he:Ext φ φ')(h:Cz φ f a):Cz φ' f a :=
 ⟨h.ts.mono he,by rw[h.dm];exact List.map_congr_left fun id hi=>by rw[he.f id (h.lt id hi)],fun id hi=>Nat.lt_of_lt_of_le (h.lt id hi) he.n⟩
theorem Cz.put {φ:Fi}{f:Fm}{a:Act}(h:Cz φ f a)(dst:Option Tmp){v:AV}{u:Value}(hv:VR φ v u):Cz φ (f.put dst v) (a.put dst u):=by
 cases dst with
 | none=>exact h
 | some d =>
  refine⟨?_,h.dm,h.lt⟩
  show VRL φ (f.ts.set d v) (a.tmps.setIfInBounds d u).toList
  rw[Array.toList_setIfInBounds]
  exact h.ts.set d hv
def FW (r:Option Nat):Fence:={ fn:=fun _=>True,depth:=none,alive:=false,round:=r}
def rdB (φ:Fi)(rd:Option Nat):Option Nat:=rd.map fun id=>(φ.f id).b
theorem Dd {φ φ':Fi}(he:Ext φ φ'){rd:Option Nat}(h:∀ id,rd=some id→id<φ.n):rdB φ' rd=rdB φ rd:=by
 cases rd with
 | none=>rfl
 | some id=>simp[rdB,he.f id (h id rfl)]
def Eg (φ:Fi)(st:St)(w:World)(Q:Exit→Fm→St→Prop):Exit→Act→World→Prop :=
 fun e a w'=>∃ f' st' φ',Q e f' st'∧Ext φ φ'∧Rel φ' st' w'∧Cz φ' f' a∧Fr φ st w φ' st' w'
theorem Eg.trans {φ φ':Fi}{st st':St}{w w':World}{Q:Exit→Fm→St→Prop}{e:Exit}{a:Act}{w'':World}(he:Ext φ φ')(hf:Fr φ st w φ' st' w')(h:Eg φ' st' w' Q e a w''):Eg φ st w Q e a w'':=by
 obtain⟨f2,st2,φ2,hq,he2,hr2,ha2,hf2⟩:=h
 exact⟨f2,st2,φ2,hq,he.trans he2,hr2,ha2,hf.trans hf2⟩
variable (P:Program)(T:Ti)
def SW (rd:Option Nat)(c:Code)(Q:Exit→Fm→St→Prop)(f:Fm)(st:St):Prop :=
 ∀ (φ:Fi)(w:World)(a:Act)(n:Nat),(∀ id,rd=some id→id<φ.n)→Rel φ st w→Cz φ f a→c.wpIn (FW (rdB φ rd)) n P (Eg φ st w Q) a w
def Ac (rd:Option Nat)(ops:Array Oper)(l:List Nat)(K:Fm→St→Prop)(f:Fm)(st:St):Prop :=
 ∀ (φ:Fi)(w:World)(a:Act)(n:Nat)(Q:Exit→Act→World→Prop),(∀ id,rd=some id→id<φ.n)→Rel φ st w→Cz φ f a →
  (∀ a' w',Eg φ st w (fun _ f' st'=>K f' st') .normal a' w'→Q .normal a' w')→wpOpsIn (FW (rdB φ rd)) n P ops Q l a w
variable {P T}
theorem SW.mono {rd:Option Nat}{c:Code}{Q Q':Exit→Fm→St→Prop}{f:Fm}{st:St}(h:SW P rd c Q f st)(hq:∀ e f st,Q e f st→Q' e f st):SW P rd c Q' f st :=
 fun φ w a n h1 h2 h3=>wpIn_mono (h φ w a n h1 h2 h3) fun _ _ _ ⟨f',st',φ',k,r⟩=>⟨f',st',φ',hq _ _ _ k,r⟩
theorem Eg.here {φ:Fi}{st:St}{w:World}{Q:Exit→Fm→St→Prop}{e:Exit}{f:Fm}{a:Act}(hq:Q e f st)(hr:Rel φ st w)(ha:Cz φ f a):Eg φ st w Q e a w :=
 ⟨f,st,φ,hq,Ext.refl _,hr,ha,Fr.refl _ _ _⟩
theorem SW.skip {rd:Option Nat}{Q:Exit→Fm→St→Prop}{f:Fm}{st:St}(h:Q .normal f st):SW P rd .skip Q f st :=
 fun _ _ _ _ _ h2 h3=>wpIn_skip (Eg.here h h2 h3)
theorem SW.label {rd:Option Nat}{l:Nat}{Q:Exit→Fm→St→Prop}{f:Fm}{st:St}(h:Q .normal f st):SW P rd (.label l) Q f st :=
 fun _ _ _ _ _ h2 h3=>wpIn_label (Eg.here h h2 h3)
theorem SW.exit {rd:Option Nat}{id:Nat}{Q:Exit→Fm→St→Prop}{f:Fm}{st:St}(h:Q (.exit id) f st):SW P rd (.exit id) Q f st :=
 fun _ _ _ _ _ h2 h3=>wpIn_exit (Eg.here h h2 h3)
theorem SW.ret {rd:Option Nat}{Q:Exit→Fm→St→Prop}{f:Fm}{st:St}(h:Q .ret f st):SW P rd .ret Q f st :=
 fun _ _ _ _ _ h2 h3=>wpIn_ret (Eg.here h h2 h3)
def Lz (K:Fm→St→Prop)(Q:Exit→Fm→St→Prop):Exit→Fm→St→Prop
 | .normal,f,st=>K f st
 | e,f,st=>Q e f st
theorem SW.seq {rd:Option Nat}{x y:Code}{Q:Exit→Fm→St→Prop}{f:Fm}{st:St}(h:SW P rd x (Lz (SW P rd y Q) Q) f st):SW P rd (.seq x y) Q f st:=by
 intro φ w a n h1 h2 h3
 refine wpIn_seq (wpIn_mono (h φ w a n h1 h2 h3) fun e a' w' hq=>?_)
 obtain⟨f',st',φ',k,he,hr,ha,hf⟩:=hq
 cases e with
 | normal =>
  have:=k φ' w' a' n (fun id hi=>Nat.lt_of_lt_of_le (h1 id hi) he.n) hr ha
  rw[Dd he h1] at this
  exact wpIn_mono this fun e a w h=>h.trans he hf
 | exit id=>exact⟨f',st',φ',k,he,hr,ha,hf⟩
 | goto id=>exact⟨f',st',φ',k,he,hr,ha,hf⟩
 | ret=>exact⟨f',st',φ',k,he,hr,ha,hf⟩
 | panic c=>exact⟨f',st',φ',k,he,hr,ha,hf⟩
 | outgrown=>exact⟨f',st',φ',k,he,hr,ha,hf⟩
theorem Qw {φ:Fi}{f:Fm}{a:Act}(h:Cz φ f a){c:Operand}{t:Bool}(hc:Operand.av f.ts c=.lit (.bool t)):a.eval c=.bool t:=by
 have:=Bm h.ts c
 rw[hc] at this
 exact this.Au
theorem SW.cond {rd:Option Nat}{c:Operand}{x y:Code}{t:Bool}{Q:Exit→Fm→St→Prop}{f:Fm}{st:St}(hc:Operand.av f.ts c=.lit (.bool t))(h:SW P rd (if t then x else y) Q f st):SW P rd (.cond c x y) Q f st :=
 fun φ w a n h1 h2 h3=>wpIn_cond (Qw h3 hc) (h φ w a n h1 h2 h3)
def blockQ (id:Nat)(Q:Exit→Fm→St→Prop):Exit→Fm→St→Prop
 | .exit id',f,st=>if id'=id then Q .normal f st else Q (.exit id') f st
 | e,f,st=>Q e f st
theorem SW.block {rd:Option Nat}{id:Nat}{c:Code}{Q:Exit→Fm→St→Prop}{f:Fm}{st:St}(h:SW P rd c (blockQ id Q) f st):SW P rd (.block id c) Q f st:=by
 intro φ w a n h1 h2 h3
 refine wpIn_block (wpIn_mono (h φ w a n h1 h2 h3) fun e a' w' hq=>?_)
 obtain⟨f',st',φ',k,r⟩:=hq
 cases e with
 | exit id' =>
  simp only [blockQ,Exit.inBlock] at k ⊢
  split
  ·rename_i hid;rw[if_pos hid] at k;exact⟨f',st',φ',k,r⟩
  ·rename_i hid;rw[if_neg hid] at k;exact⟨f',st',φ',k,r⟩
 | normal=>exact⟨f',st',φ',k,r⟩
 | goto id=>exact⟨f',st',φ',k,r⟩
 | ret=>exact⟨f',st',φ',k,r⟩
 | panic c=>exact⟨f',st',φ',k,r⟩
 | outgrown=>exact⟨f',st',φ',k,r⟩
theorem SW.loop {rd:Option Nat}{c:Code}{Q:Exit→Fm→St→Prop}{f:Fm}{st:St}(I:Nat→Fm→St→Prop)(k:Nat)(h0:I k f st)
  (hround:∀ k f st,I k f st→SW P rd c (Lz (fun f' st'=>∃ k',k'<k∧I k' f' st') Q) f st):SW P rd (.loop c) Q f st:=by
 intro φ w a n h1 h2 h3
 let J:Nat→Act→World→Prop:=fun k a' w'=>∃ f' st' φ',I k f' st'∧Ext φ φ'∧Rel φ' st' w'∧Cz φ' f' a'∧Fr φ st w φ' st' w'
 intro b kk cs hro hb hroom
 have key:∀ k a' w',J k a' w'→∃ e a₂ w₂,Eg φ st w Q e a₂ w₂∧ArrivesIn (Machine.fenced P (FW (rdB φ rd))) P (lone (b.atR a' (.code c::.inLoop c::kk)) cs w') b kk cs e a₂ w₂:=by
  intro k
  induction k using Nat.strongRecOn with
  | _ k ih =>
   intro a' w' hj
   obtain⟨f',st',φ',hi,he,hr,ha,hf⟩:=hj
   have hr1:=hround k f' st' hi φ' w' a' n (fun id hi=>Nat.lt_of_lt_of_le (h1 id hi) he.n) hr ha
   rw[Dd he h1] at hr1
   obtain⟨e,a₁,w₁,hq,harr⟩:=hr1 b (.inLoop c::kk) cs hro hb hroom
   obtain⟨f2,st2,φ2,hk,he2,hr2,ha2,hf2⟩:=hq
   cases e with
   | normal =>
    obtain⟨k',hlt,hi'⟩:=hk
    obtain⟨e₂,a₂,w₂,hq₂,harr₂⟩:=ih k' hlt a₁ w₁ ⟨f2,st2,φ2,hi',he.trans he2,hr2,ha2,hf.trans hf2⟩
    exact⟨e₂,a₂,w₂,hq₂,.of_steps (StepsIn.trans harr (.one (fenced_calm hb hroom rfl) stepR_inLoop)) harr₂⟩
   | exit id=>exact⟨_,a₁,w₁,⟨f2,st2,φ2,hk,he.trans he2,hr2,ha2,hf.trans hf2⟩,.pass (x:=.inLoop c) rfl (fun _ _=>.inl (by simp)) harr⟩
   | goto l=>exact⟨_,a₁,w₁,⟨f2,st2,φ2,hk,he.trans he2,hr2,ha2,hf.trans hf2⟩,.pass (x:=.inLoop c) rfl (fun _ _=>.inl (by simp)) harr⟩
   | ret=>exact⟨_,a₁,w₁,⟨f2,st2,φ2,hk,he.trans he2,hr2,ha2,hf.trans hf2⟩,.pass (x:=.inLoop c) rfl (fun _ _=>.inl (by simp)) harr⟩
   | panic ch=>exact⟨_,a₁,w₁,⟨f2,st2,φ2,hk,he.trans he2,hr2,ha2,hf.trans hf2⟩,.pass (x:=.inLoop c) rfl (fun _ _=>.inl (by simp)) harr⟩
   | outgrown=>exact⟨_,a₁,w₁,⟨f2,st2,φ2,hk,he.trans he2,hr2,ha2,hf.trans hf2⟩,.pass (x:=.inLoop c) rfl (fun _ _=>.inl (by simp)) harr⟩
 obtain⟨e,a',w',hq,harr⟩:=key k a w ⟨f,st,φ,h0,Ext.refl _,h2,h3,Fr.refl _ _ _⟩
 exact⟨e,a',w',hq,.of_steps (.one (fenced_calm hb hroom rfl) stepR_loop) harr⟩
def yA (ops:Array Oper)(ts:List AV)(j:Nat):Option Bool :=
 match ((ops[j]?).bind (·.dst)).bind (ts[·]?) with
 | some (.lit (.bool b))=>some b
 | _=>none
theorem Gb {φ:Fi}{f:Fm}{a:Act}(h:Cz φ f a)(ops:Array Oper):yielded ops a.tmps=yA ops f.ts:=by
 funext j
 unfold yielded yA
 cases hd:(ops[j]?).bind (·.dst) with
 | none=>rfl
 | some d =>
  simp only [Option.bind_some]
  have hl:=h.ts.length
  cases ht:f.ts[d]? with
  | none =>
   have:a.tmps[d]?=none:=Array.getElem?_eq_none_iff.2 (by have:=List.getElem?_eq_none_iff.1 ht;rw[hl] at this;simpa using this)
   rw[this]
  | some u =>
   obtain⟨v,hv,hr⟩:=h.ts.get d u ht
   rw[Array.getElem?_toList] at hv
   rw[hv]
   cases hr with
   | lit v=>cases v<;>rfl
   | ptr id off h=>rfl
   | sl id off len sz ex cap h hc he hs=>rfl
   | mp id h=>rfl
   | yld id h=>rfl
   | fn f h1 h2=>rfl
   | agg h=>rfl
   | tup h=>rfl
theorem semAt_eq {o:Oper}(h:∀ c,o.op≠.defer c)(ro:Option Nat)(ρ:Operand→Value):o.semAt ro ρ=execOp ρ o:=by
 unfold Oper.semAt
 split
 ·rename_i l c hc;exact absurd hc (h c)
 ·rfl
theorem Ac.nil {rd:Option Nat}{ops:Array Oper}{K:Fm→St→Prop}{f:Fm}{st:St}(h:K f st):Ac P rd ops [] K f st :=
 fun _ _ _ _ _ _ h2 h3 hQ=>hQ _ _ (Eg.here h h2 h3)
theorem Ac.skip {rd:Option Nat}{ops:Array Oper}{i:Nat}{l:List Nat}{K:Fm→St→Prop}{f:Fm}{st:St}{o:Oper}(ho:ops[i]?=some o)(hw:Region.wanted o (yA ops f.ts)=false)
  (h:Ac P rd ops l K (f.put o.dst Bx) st):Ac P rd ops (i::l) K f st:=by
 intro φ w a n Q h1 h2 h3 hQ
 simp only [wpOpsIn,ho]
 rw[Gb h3,hw]
 simp only [Bool.false_eq_true,if_false]
 exact⟨fun _ _=>trivial,h φ w _ n Q h1 h2 (h3.put o.dst (.lit _)) hQ⟩
theorem Ac.value {rd:Option Nat}{ops:Array Oper}{i:Nat}{l:List Nat}{K:Fm→St→Prop}{f:Fm}{st st':St}{o:Oper}{r:AV}(ho:ops[i]?=some o)(hw:Region.wanted o (yA ops f.ts)=true)(hd:∀ c,o.op≠.defer c)
  (hrun:∀ (φ:Fi)(w:World)(a:Act),Rel φ st w→Cz φ f a→∃ φ' w' u,((execOp a.eval o).run P w=.ok (.value u) w'∨((execOp a.eval o).run P w=.ok .skip w'∧u=undef))∧VR φ' r u∧Rel φ' st' w'∧Ext φ φ'∧Fr φ st w φ' st' w')
  (h:Ac P rd ops l K (f.put o.dst r) st'):Ac P rd ops (i::l) K f st:=by
 intro φ w a n Q h1 h2 h3 hQ
 simp only [wpOpsIn,ho]
 rw[Gb h3,hw]
 simp only [if_true]
 refine⟨fun _ _=>trivial,?_⟩
 rw[semAt_eq hd]
 obtain⟨φ',w',u,hr,hv,hrel,he,hf⟩:=hrun φ w a h2 h3
 have h4:=h φ' w' (a.put o.dst u) n Q (fun id hi=>Nat.lt_of_lt_of_le (h1 id hi) he.n) hrel ((h3.mono he).put o.dst hv) (fun a' w'' hl=>hQ a' w'' (hl.trans he hf))
 rw[Dd he h1] at h4
 rcases hr with hr|⟨hr,rfl⟩
 ·rw[hr];exact h4
 ·rw[hr];exact h4
theorem Hz {T:Ti}{h:Hp}{ρ:Operand→AV}{o:Oper}{r:AV}(he:evG T h ρ o=some r)(c:Call):o.op≠.defer c:=by
 intro hc;unfold evG at he;simp only [hc] at he;unfold evL at he;simp only [hc] at he;cases he
theorem Ac.Db (hT:TOk P T){rd:Option Nat}{ops:Array Oper}{i:Nat}{l:List Nat}{K:Fm→St→Prop}{f:Fm}{st:St}{o:Oper}{r:AV}(ho:ops[i]?=some o)(hw:Region.wanted o (yA ops f.ts)=true)
  (hr:evG T st.h (Operand.av f.ts) o=some r)(h:Ac P rd ops l K (f.put o.dst r) st):Ac P rd ops (i::l) K f st :=
 Ac.value ho hw (Hz hr) (fun φ w a h2 h3=>by
  obtain⟨u,h4,h5⟩:=Qz (P:=P) hT h2 (Bm h3.ts) hr
  exact⟨φ,w,u,.inl (h5 w (Same.refl _ _ _)),h4,h2,Ext.refl _,Fr.refl _ _ _⟩) h
theorem Ac.fresh (hT:TOk P T){rd:Option Nat}{ops:Array Oper}{i:Nat}{l:List Nat}{K:Fm→St→Prop}{f:Fm}{st:St}{o:Oper}{r:AV}{cs:List AV}(ho:ops[i]?=some o)(hw:Region.wanted o (yA ops f.ts)=true)
  (hr:evF T st.n (Operand.av f.ts) o=some (r,cs))(h:Ac P rd ops l K (f.put o.dst r) (st.push (.cells none false cs))):Ac P rd ops (i::l) K f st :=
 Ac.value ho hw (fun c hc=>by unfold evF at hr;simp only [hc] at hr;cases hr) (fun φ w a h2 h3=>by
  rw[←h2.n] at hr
  obtain⟨c,t,h4,h5⟩:=Xw (P:=P) hT (Bm h3.ts) hr
  obtain⟨u,h6,h7⟩:=h5 w
  have:=h2.push (.cells c t) (.cells none false cs) ⟨w.heap.size,0,c.size⟩ rfl (Cx.new (rest:=[]) h4 c (by simp) t)
  exact⟨_,_,u,.inl h6,h7,this.1,φ.Aw _,this.2⟩) h
def storeO (T:Ti)(st:St)(ρ:Operand→AV)(o:Oper):Option St :=
 match o.op with
 | .store t p x=>storeA T st t (ρ p) (ρ x)
 | _=>none
theorem Ac.store (hT:TOk P T){rd:Option Nat}{ops:Array Oper}{i:Nat}{l:List Nat}{K:Fm→St→Prop}{f:Fm}{st st':St}{o:Oper}(ho:ops[i]?=some o)(hw:Region.wanted o (yA ops f.ts)=true)
  (hr:storeO T st (Operand.av f.ts) o=some st')(h:Ac P rd ops l K (f.put o.dst Bx) st'):Ac P rd ops (i::l) K f st:=by
 unfold storeO at hr
 split at hr
 ·rename_i t p x hx
  refine Ac.value ho hw (fun c hc=>by rw[hx] at hc;cases hc) (fun φ w a h2 h3=>?_) h
  obtain⟨w',h4,h5,h6,h7⟩:=Pb (P:=P) hT h2 (Bm h3.ts p) (Bm h3.ts x) hr
  exact⟨φ,w',undef,.inr ⟨by simp[execOp,hx,h4,Result.andThen],rfl⟩,.lit _,h5,Ext.refl _,h6⟩
 ·cases hr
def appendO (T:Ti)(st:St)(ρ:Operand→AV)(o:Oper):Option (AV × St) :=
 match o.op with
 | .call c=>match c.callee,c.args.toList,c.argTypes.toList with
  | .builtin .append,[s,x],[t,xt]=>appendA T st t xt (ρ s) (ρ x)
  | _,_,_=>none
 | _=>none
theorem Ac.append (hT:TOk P T){rd:Option Nat}{ops:Array Oper}{i:Nat}{l:List Nat}{K:Fm→St→Prop}{f:Fm}{st st':St}{o:Oper}{r:AV}(ho:ops[i]?=some o)(hw:Region.wanted o (yA ops f.ts)=true)
  (hr:appendO T st (Operand.av f.ts) o=some (r,st'))(h:Ac P rd ops l K (f.put o.dst r) st'):Ac P rd ops (i::l) K f st:=by
 unfold appendO at hr
 split at hr
 ·rename_i c hx
  split at hr
  ·rename_i s x t xt hc ha ht
   have ha':c.args=#[s,x]:=by cases hq:c.args;simp_all
   have ht':c.argTypes=#[t,xt]:=by cases hq:c.argTypes;simp_all
   refine Ac.value ho hw (fun c hc=>by rw[hx] at hc;cases hc) (fun φ w a h2 h3=>?_) h
   obtain⟨φ',w',v,h4,h5,h6,h7,h8⟩:=Rc (P:=P) (ty:=o.type) hT h2 (Bm h3.ts s) (Bm h3.ts x) hr
   refine⟨φ',w',v,.inl ?_,h5,h6,h7,h8⟩
   simp[execOp,hx,resolve,hc,ha',ht',invoke,builtin,h4,Result.andThen]
  ·cases hr
 ·cases hr
theorem SW.region {rd:Option Nat}{id:Nat}{ops:Array Oper}{Q:Exit→Fm→St→Prop}{f:Fm}{st:St}(h:Ac P rd ops (List.range ops.size) (fun f st=>Q .normal f st) f st):SW P rd (.region id ops false) Q f st :=
 fun φ w a n h1 h2 h3=>wpIn_region (h φ w a n (Eg φ st w Q) h1 h2 h3 fun _ _ hl=>hl)
end Go.Ev
namespace Go.Ev
def Ca (φ:Fi)(st:St)(w:World)(k:AV→St→Prop):Ending→World→Prop :=
 fun e w'=>∃ v cv st' φ',e=.returned cv∧k v st'∧VR φ' v cv∧Ext φ φ'∧Rel φ' st' w'∧Fr φ st w φ' st' w'
variable (P:Program)(T:Ti)
def At (g:FuncId)(args:List AV)(st:St)(k:AV→St→Prop):Prop :=
 ∀ (φ:Fi)(w:World)(cargs:List Value)(n:Nat),Rel φ st w→VRL φ args cargs→CallsIn Fence.wide n P g cargs.toArray w (Ca φ st w k)
def Bj (id:Nat)(args:List AV)(st:St)(k:AV→St→Prop):Prop :=
 ∀ (φ:Fi)(w:World)(cargs:List Value)(n:Nat),Rel φ st w→id<φ.n→VRL φ args cargs →
  ∃ fn tmps assign body,(Instr.yield (φ.f id).b cargs.toArray).run P w=.ok (.round (φ.f id).b fn tmps assign body) w∧RoundIn Fence.wide n P (φ.f id).b fn tmps assign body w (Ca φ st w k)
def Enters (g:FuncId):Prop:=∀ args w,(callFunc g args).run P w=.ok (.enter g args) w
def ApplyW (callee:AV)(args:List AV)(st:St)(k:AV→St→Prop):Prop :=
 match callee with
 | .fn (.func g) first caps=>Enters P g∧At P g (first++args++caps) st k
 | .yld id=>Bj P id args st k
 | _=>False
variable {P T}
theorem At.mono {g:FuncId}{args:List AV}{st:St}{k k':AV→St→Prop}(h:At P g args st k)(hk:∀ v st,k v st→k' v st):At P g args st k' :=
 fun φ w cargs n h1 h2=>(h φ w cargs n h1 h2).mono fun _ _ ⟨v,cv,st',φ',h3,h4,r⟩=>⟨v,cv,st',φ',h3,hk _ _ h4,r⟩
theorem Bj.mono {id:Nat}{args:List AV}{st:St}{k k':AV→St→Prop}(h:Bj P id args st k)(hk:∀ v st,k v st→k' v st):Bj P id args st k' :=
 fun φ w cargs n h1 h2 h3=>by
  obtain⟨fn,tmps,assign,body,h4,h5⟩:=h φ w cargs n h1 h2 h3
  exact⟨fn,tmps,assign,body,h4,h5.mono fun _ _ ⟨v,cv,st',φ',h3,h4,r⟩=>⟨v,cv,st',φ',h3,hk _ _ h4,r⟩⟩
theorem ApplyW.mono {c:AV}{args:List AV}{st:St}{k k':AV→St→Prop}(h:ApplyW P c args st k)(hk:∀ v st,k v st→k' v st):ApplyW P c args st k':=by
 unfold ApplyW at *
 split at h
 ·exact⟨h.1,h.2.mono hk⟩
 ·exact h.mono hk
 ·exact h
def callO (ρ:Operand→AV)(o:Oper):Option (AV × List AV) :=
 match o.op with
 | .call c=>match c.callee with
  | .value f=>some (ρ f,c.args.toList.map ρ)
  | _=>none
 | _=>none
theorem kZ {φ:Fi}{ρa:Operand→AV}{ρ:Operand→Value}(hρ:OpR φ ρa ρ):∀ l:List Operand,VRL φ (l.map ρa) (l.map ρ)
 | []=>.nil
 | x::l=>.cons (hρ x) (kZ hρ l)
theorem Ac.call {rd:Option Nat}{ops:Array Oper}{i:Nat}{l:List Nat}{K:Fm→St→Prop}{f:Fm}{st:St}{o:Oper}{c:AV}{args:List AV}(ho:ops[i]?=some o)(hw:Region.wanted o (yA ops f.ts)=true)
  (hc:callO (Operand.av f.ts) o=some (c,args))(h:ApplyW P c args st (fun v st'=>Ac P rd ops l K (f.put o.dst v) st')):Ac P rd ops (i::l) K f st:=by
 unfold callO at hc
 split at hc
 ·rename_i cl hx
  split at hc
  ·rename_i fo hcal
   cases hc
   intro φ w a n Q h1 h2 h3 hQ
   simp only [wpOpsIn,ho]
   rw[Gb h3,hw]
   simp only [if_true]
   refine⟨fun _ _=>trivial,?_⟩
   rw[semAt_eq (fun c hc=>by rw[hx] at hc;cases hc)]
   have hρ:=Bm h3.ts
   have hargs:=kZ hρ cl.args.toList
   have hfo:=hρ fo
   have hnext:∀ e w',Ca φ st w (fun v st'=>Ac P rd ops l K (f.put o.dst v) st') e w'→∃ cv,e=.returned cv∧wpOpsIn (FW (rdB φ rd)) n P ops Q l (a.put o.dst cv) w':=fun e w' hp=>by
    obtain⟨v,cv,st',φ',he,hk,hv,hex,hrel,hfr⟩:=hp
    refine⟨cv,he,?_⟩
    have h4:=hk φ' w' (a.put o.dst cv) n Q (fun id hi=>Nat.lt_of_lt_of_le (h1 id hi) hex.n) hrel ((h3.mono hex).put o.dst hv) (fun a' w'' hl=>hQ a' w'' (hl.trans hex hfr))
    rwa [Dd hex h1] at h4
   unfold ApplyW at h
   split at h
   ·rename_i g first caps hq
    rw[hq] at hfo
    obtain⟨us,vs,hfv,hu,hv⟩:=hfo.Gf
    obtain⟨hent,hcw⟩:=h
    have hcall:=hcw φ w (us++cl.args.toList.map a.eval++vs) (n-1) h2 ((hu.append hargs).append hv)
    have hrun:(execOp a.eval o).run P w=.ok (.enter g (us++cl.args.toList.map a.eval++vs).toArray) w:=by
     simp only [execOp,hx,resolve,hcal,Sem.run_bind,hfv,Deferred.ofValue,Sem.run_pure,Result.andThen,invoke]
     rw[hent]
     congr 2
     apply Array.ext'
     simp
    rw[hrun]
    refine⟨fun h=>(by cases h),?_⟩
    have hcall':CallsIn (FW (rdB φ rd)) (n-1) P g (us++cl.args.toList.map a.eval++vs).toArray w (Ca φ st w (fun v st'=>Ac P rd ops l K (f.put o.dst v) st')):=by
     cases rdB φ rd<;>exact hcall
    refine hcall'.mono fun e w' hp=>?_
    obtain⟨cv,rfl,h5⟩:=hnext e w' hp
    exact h5
   ·rename_i id hq
    rw[hq] at hfo
    obtain⟨hfv,hid⟩:=hfo.Rz
    obtain⟨fn,tmps,assign,body,hy,hround⟩:=h φ w (cl.args.toList.map a.eval) (n-1) h2 hid hargs
    have hrun:(execOp a.eval o).run P w=.ok (.round (φ.f id).b fn tmps assign body) w:=by
     simp only [execOp,hx,resolve,hcal,Sem.run_bind,hfv,Deferred.ofValue,Sem.run_pure,Result.andThen,invoke]
     rw[←hy]
     congr 2
     apply Array.ext'
     simp
    rw[hrun]
    refine⟨fun h=>(by cases h),?_⟩
    have hround':RoundIn (FW (rdB φ rd)) (n-1) P (φ.f id).b fn tmps assign body w (Ca φ st w (fun v st'=>Ac P rd ops l K (f.put o.dst v) st')):=by
     cases rdB φ rd<;>exact hround
    refine hround'.mono fun e w' hp=>?_
    obtain⟨cv,rfl,h5⟩:=hnext e w' hp
    exact h5
   ·exact h.elim
  ·cases hc
 ·cases hc
def killA:List Nat→St→Option St
 | [],st=>some st
 | id::r,st=>match st.h.get id with
  | some .dfr=>killA r ⟨st.h.set id (.cells none true []),st.n⟩
  | _=>none
def resOne (T:Ti)(f:Fm)(st:St):ResultVar→Option AV
 | .tmp t=>some (f.ts.getD t Bx)
 | .cell a t=>loadA T st.h t (f.ts.getD a Bx)
def resAll (T:Ti)(f:Fm)(st:St):List ResultVar→Option (List AV)
 | []=>some []
 | r::rs=>match resOne T f st r,resAll T f st rs with
  | some v,some vs=>some (v::vs)
  | _,_=>none
def resA (T:Ti)(rs:Array ResultVar)(f:Fm)(st:St):Option AV :=
 match resAll T f st rs.toList with
 | some [v]=>some v
 | some vs=>some (.tup vs)
 | none=>none
def iD (T:Ti)(fn:Func)(k:AV→St→Prop):Exit→Fm→St→Prop
 | .normal,f,st | .ret,f,st=>∃ st' v,killA f.dm st=some st'∧resA T fn.results f st'=some v∧k v st'
 | _,_,_=>False
theorem Lm {φ:Fi}{ts:List AV}{tmps:Array Value}(h:VRL φ ts tmps.toList)(t:Nat):VR φ (ts.getD t Bx) (tmps.getD t undef) :=
 Bm (a:=⟨tmps,[]⟩) h (.tmp t)
def Xe (tmps:Array Value):ResultVar→Sem Value
 | .tmp t=>pure (tmps.getD t undef)
 | .cell a t=>do loadVar t (←asAddr (tmps.getD a undef))
theorem Oe (fn:Func)(tmps:Array Value):results fn tmps=(do let vs ←fn.results.mapM (Xe tmps);pure (if h:vs.size=1 then vs[0] else .tuple vs)):=rfl
theorem cX (hT:TOk P T){φ:Fi}{st:St}{w:World}{f:Fm}{tmps:Array Value}{fn:Func}{v:AV}(hr:Rel φ st w)(ht:VRL φ f.ts tmps.toList)(h:resA T fn.results f st=some v) :
  ∃ u,VR φ v u∧(results fn tmps).run P w=.ok u w:=by
 have hone:∀ r v,resOne T f st r=some v→∃ u,VR φ v u∧((Xe tmps r).run P w=.ok u w):=fun r v hv=>by
  cases r with
  | tmp t=>simp only [resOne,Option.some.injEq] at hv;subst hv;exact⟨_,Lm ht t,rfl⟩
  | cell a t =>
   simp only [resOne] at hv
   obtain⟨u,h1,h2⟩:=Pt (P:=P) hT hr (Lm ht a) hv
   refine⟨u,h1,?_⟩
   have h3:=h2 w (Same.refl _ _ _)
   have hg:=Lm ht a
   unfold loadA at hv
   split at hv
   ·rename_i id off hq
    rw[hq] at hg
    obtain⟨hp,_⟩:=hg.Dn
    rw[hp] at h3
    show Sem.run P (do let x ←asAddr (tmps.getD a undef);loadVar t x) w=_
    rw[hp]
    simpa[Instr.loadAt,Instr.sureAddr,asAddr] using h3
   ·cases hv
 have hall:∀ rs vs,resAll T f st rs=some vs→∃ us,VRL φ vs us∧(rs.mapM (Xe tmps)).run P w=.ok us w:=by
  intro rs
  induction rs with
  | nil=>intro vs hv;simp only [resAll,Option.some.injEq] at hv;subst hv;exact⟨[],.nil,rfl⟩
  | cons r rs ih =>
   intro vs hv
   simp only [resAll] at hv
   split at hv
   ·rename_i v1 vs1 h1 h2
    cases hv
    obtain⟨u,hu,hur⟩:=hone r v1 h1
    obtain⟨us,hus,husr⟩:=ih vs1 h2
    refine⟨u::us,.cons hu hus,?_⟩
    simp only [List.mapM_cons,Sem.run_bind,hur,Result.andThen,husr,Sem.run_pure]
   ·cases hv
 unfold resA at h
 have key:∀ vs us,VRL φ vs us→(fn.results.toList.mapM (Xe tmps)).run P w=.ok us w →
   (results fn tmps).run P w=.ok (if h:us.toArray.size=1 then us.toArray[0] else .tuple us.toArray) w:=fun vs us _ hrun=>by
  rw[Oe]
  have hm:∀ x:Sem (List Value),(List.toArray <$> x).run P w=(x.run P w).andThen fun a w'=>.ok a.toArray w':=fun x=>by
   show(x >>= fun a=>pure a.toArray).run P w=_
   rw[Sem.run_bind];rfl
  rw[Sem.run_bind,Array.mapM_eq_mapM_toList,hm,hrun]
  rfl
 split at h
 ·rename_i v' hq
  cases h
  obtain⟨us,hus,hrun⟩:=hall _ _ hq
  cases hus with
  | cons h1 h2=>cases h2 with
   | nil=>exact⟨_,h1,by rw[key _ _ (.cons h1 .nil) hrun];simp⟩
 ·rename_i vs hne hq
  cases h
  obtain⟨us,hus,hrun⟩:=hall _ _ hq
  refine⟨.tuple us.toArray,.tup hus,?_⟩
  rw[key _ _ hus hrun]
  have:us.toArray.size≠1:=fun h1=>by
   have hl:=hus.length
   have:vs.length=1:=by rw[hl];simpa using h1
   match vs,this with
   | [x],_=>exact hne x rfl
  rw[dif_neg this]
 ·cases h
theorem Mg {w:World}{b:Nat}(h:w.heap[b]?=some (.deferred (some []))):(Instr.takeDeferred b).run P w=.ok [] (w.putObj b (.deferred none)):=run_takeDeferred h
theorem Rel.kill {φ:Fi}{st:St}{w:World}(hr:Rel φ st w){id:Nat}(ho:st.h.get id=some .dfr) :
  Rel φ ⟨st.h.set id (.cells none true []),st.n⟩ (w.putObj (φ.f id).b (.deferred none))∧Fr φ st w φ ⟨st.h.set id (.cells none true []),st.n⟩ (w.putObj (φ.f id).b (.deferred none)) :=
 hr.Sq ho rfl rfl rfl rfl rfl World.putObj_size (fun _ hk=>World.putObj_heap_other hk) ⟨fun i a ha=>by simp at ha,fun h=>by cases h⟩
theorem Gz (hT:TOk P T){n:Nat}{fn:Func}{k:AV→St→Prop}{φ0:Fi}{st0:St}{w0:World}{f:Fm}{tmps:Array Value}{φ:Fi}:∀ (dm:List Nat)(st:St)(w:World),(∀ id∈dm,id<φ.n)→Ext φ0 φ→Rel φ st w→VRL φ f.ts tmps.toList →
  Fr φ0 st0 w0 φ st w→(∃ st' v,killA dm st=some st'∧resA T fn.results f st'=some v∧k v st') →
  LeavesInM Fence.wide n P fn tmps (Ca φ0 st0 w0 k) (dm.map fun id=>{ target:=.collected (φ.f id).b,args:=#[] }) .returning w
 | [],st,w,_,he,hr,ht,hf,⟨st',v,hk,hv,hkv⟩=>by
  simp only [killA,Option.some.injEq] at hk
  subst hk
  obtain⟨u,hu,hrun⟩:=cX (P:=P) hT hr ht hv
  exact⟨u,hrun,v,u,st,φ,rfl,hkv,hu,he,hr,hf⟩
 | id::r,st,w,hlt,he,hr,ht,hf,⟨st',v,hk,hv,hkv⟩=>by
  simp only [killA] at hk
  split at hk
  ·rename_i ho
   have hd:=hr.obj id _ ho
   obtain⟨h1,h2⟩:=hr.kill ho
   refine⟨by simp,.inl ⟨(φ.f id).b,_,rfl,Mg hd,?_⟩⟩
   exact Gz hT r _ _ (fun i hi=>hlt i (List.mem_cons_of_mem _ hi)) he h1 ht (hf.trans h2) ⟨st',v,hk,hv,hkv⟩
  ·cases hk
theorem Bb (hT:TOk P T){g:FuncId}{fn:Func}{c:Code}{args:List AV}{st:St}{k:AV→St→Prop}(hf:P.funcs[g]?=some fn)(hb:fn.body=some c)
  (h:SW P none c (iD T fn k) ⟨args++List.replicate (fn.ntmps-args.length) Bx,[]⟩ st):At P g args st k:=by
 intro φ w cargs n h1 h2
 refine callsIn_of_wp_marks hf hb trivial ?_ rfl
 have hl:=h2.length
 have ha:Cz φ ⟨args++List.replicate (fn.ntmps-args.length) Bx,[]⟩ { tmps:=cargs.toArray++Array.replicate (fn.ntmps-cargs.toArray.size) undef,defers:=[] }:=by
  refine⟨?_,rfl,fun _ h=>by cases h⟩
  have:(cargs.toArray++Array.replicate (fn.ntmps-cargs.toArray.size) undef).toList=cargs++List.replicate (fn.ntmps-args.length) undef:=by simp[hl]
  rw[this]
  exact h2.append (VRL.replicate _ (.lit _))
 refine wpIn_mono (h φ w _ n (fun id hi=>by cases hi) h1 ha) fun e a' w' hq=>?_
 obtain⟨f',st',φ',hk,he,hr,ha',hfr⟩:=hq
 cases e with
 | normal=>show LeavesInM _ _ _ _ _ _ _ _ _;rw[ha'.dm];exact Gz hT f'.dm st' w' ha'.lt he hr ha'.ts hfr hk
 | ret=>show LeavesInM _ _ _ _ _ _ _ _ _;rw[ha'.dm];exact Gz hT f'.dm st' w' ha'.lt he hr ha'.ts hfr hk
 | exit id=>exact hk.elim
 | goto l=>exact hk.elim
 | panic c=>exact hk.elim
 | outgrown=>exact hk.elim
end Go.Ev
namespace Go.Ev
def setPs:List AV→List (Tmp × AV)→List AV
 | ts,[]=>ts
 | ts,(t,a)::r=>setPs (ts.set t a) r
def loopAt (st:St)(id:Nat):Option Cs :=
 match st.h.get id with
 | some (.loop r)=>some r
 | _=>none
theorem Dl {st:St}{id:Nat}{r:Cs}(h:loopAt st id=some r):st.h.get id=some (.loop r):=by
 unfold loopAt at h
 split at h
 ·cases h;assumption
 ·cases h
def Bl (st:St)(id:Nat)(r:Cs):St:=⟨st.h.set id (.loop r),st.n⟩
variable {P:Program}{T:Ti}
theorem Rel.loop {φ:Fi}{st:St}{w:World}(hr:Rel φ st w){id:Nat}{r r':Cs}(ho:loopAt st id=some r){L L':Loop}(hL:w.heap[(φ.f id).b]?=some (.loop L))
  (h1:L'.state=r'.state)(h2:L'.pending=r'.pending)(h3:L'.tmps=L.tmps)(h4:L'.params=L.params)(h5:L'.assign=L.assign)(h6:L'.body=L.body)(h7:L'.defers=L.defers)
  (k3:r'.tmps=r.tmps)(k4:r'.params=r.params)(k5:r'.assign=r.assign)(k6:r'.body=r.body)(k7:r'.dfid=r.dfid) :
  Rel φ (Bl st id r') (w.putObj (φ.f id).b (.loop L'))∧Fr φ st w φ (Bl st id r') (w.putObj (φ.f id).b (.loop L')):=by
 have hg:=Dl ho
 obtain⟨L0,g1,g2,g3,g4,g5,g6,g7,g8,g9⟩:=hr.obj id _ hg
 rw[hL] at g1
 cases g1
 refine hr.Sq hg rfl rfl rfl rfl rfl World.putObj_size (fun _ hk=>World.putObj_heap_other hk) ⟨L',World.putObj_heap_same (hr.blk id _ hg),h1,h2,?_,?_,?_,?_,?_,?_⟩
 ·rw[h3,k3];exact g4
 ·rw[h4,k4];exact g5
 ·rw[h5,k5];exact g6
 ·rw[h6,k6];exact g7
 ·rw[k7];exact g8
 ·rw[h7,k7];exact g9
theorem Mc {φ:Fi}:∀ (ps:List Tmp){as:List AV}{us:List Value}{ts:List AV}{tmps:Array Value},VRL φ as us→VRL φ ts tmps.toList →
  VRL φ (setPs ts (ps.zip as)) ((ps.zip us).foldl (fun(t:Array Value)(p:Tmp × Value)=>t.setIfInBounds p.1 p.2) tmps).toList
 | [],_,_,_,_,_,ht=>by simpa[setPs] using ht
 | p::ps,_,_,_,_,.nil,ht=>by simpa[setPs] using ht
 | p::ps,_,_,ts,tmps,.cons h t,ht=>by
  simp only [List.zip_cons_cons,setPs,List.foldl_cons]
  refine Mc ps t ?_
  rw[Array.toList_setIfInBounds]
  exact ht.set p h
def cU (id:Nat)(k:AV→St→Prop):Exit→Fm→St→Prop
 | .normal,_,st=>∃ r,loopAt st id=some r∧k (.lit (.bool true)) (Bl st id { r with state:=.ready,pending:=none})
 | .ret,_,st=>∃ r,loopAt st id=some r∧k (.lit (.bool false)) (Bl st id { r with state:=.done,pending:=some .ret})
 | .exit e,_,st=>∃ r,loopAt st id=some r∧k (.lit (.bool false)) (Bl st id { r with state:=.done,pending:=some (.exit e) })
 | .goto l,_,st=>∃ r,loopAt st id=some r∧k (.lit (.bool false)) (Bl st id { r with state:=.done,pending:=some (.goto l) })
 | _,_,_=>False
theorem Bj.Fg {id:Nat}{args:List AV}{st:St}{k:AV→St→Prop}{r:Cs}(ho:loopAt st id=some r)(hlen:args.length=r.params.size)
  (h:SW P (some id) r.assign (Lz (fun f1 st1=>∃ r1,loopAt st1 id=some r1∧r1.state=.ready∧SW P (some id) r.body (cU id k) f1 (Bl st1 id { r1 with state:=.busy})) (fun _ _ _=>False))
   ⟨setPs r.tmps (r.params.toList.zip args),[]⟩ st):Bj P id args st k:=by
 intro φ w cargs n hr hid hargs
 obtain⟨L,g1,g2,g3,g4,g5,g6,g7,g8,g9⟩:=hr.obj id _ (Dl ho)
 have hl:=hargs.length
 refine⟨_,_,_,_,run_yield g1 (by rw[g5];simp;omega),?_⟩
 refine roundIn_of_wpIn (F:=Fence.wide) trivial ?_
 rw[g6]
 have htm:VRL φ (setPs r.tmps (r.params.toList.zip args)) ((L.params.zip cargs.toArray).foldl (fun tmps (t,a)=>tmps.setIfInBounds t a) L.tmps).toList:=by
  have:=Mc (ps:=r.params.toList) hargs g4
  rw[g5,←Array.foldl_toList,Array.toList_zip]
  exact this
 refine wpIn_mono (h φ w { tmps:=(L.params.zip cargs.toArray).foldl (fun tmps (t,a)=>tmps.setIfInBounds t a) L.tmps,defers:=[] } n (fun i hi=>by cases hi;exact hid) hr ⟨htm,rfl,fun _ h=>by cases h⟩) fun e a1 w1 hq=>?_
 obtain⟨f1,st1,φ1,hk,he1,hr1,ha1,hf1⟩:=hq
 have hb1:(φ1.f id).b=(φ.f id).b:=by rw[he1.f id hid]
 cases e with
 | normal =>
  obtain⟨r1,ho1,hs1,hbody⟩:=hk
  obtain⟨L1,k1,k2,k3,k4,k5,k6,k7,k8,k9⟩:=hr1.obj id _ (Dl ho1)
  rw[hb1] at k1
  have hbr:=run_beginRound (P:=P) k1 (by rw[k2];exact hs1)
  obtain⟨hr2,hf2⟩:=hr1.loop (r':={ r1 with state:=.busy}) ho1 (L:=L1) (L':={ L1 with state:=.busy}) (by rw[hb1];exact k1) rfl k3 rfl rfl rfl rfl rfl rfl rfl rfl rfl rfl
  rw[hb1] at hr2 hf2
  refine⟨_,hbr,?_⟩
  rw[g7]
  have h2:=hbody φ1 _ a1 n (fun i hi=>by cases hi;exact Nat.lt_of_lt_of_le hid he1.n) hr2 ha1
  rw[Dd he1 (fun i hi=>by cases hi;exact hid)] at h2
  refine wpIn_mono h2 fun e a2 w2 hq2=>?_
  obtain⟨f2,st2,φ2,hk2,he2,hr3,ha2,hf3⟩:=hq2
  have hb2:(φ2.f id).b=(φ.f id).b:=by rw[he2.f id (Nat.lt_of_lt_of_le hid he1.n)];exact hb1
  have fin:∀ (jump:Option Code)(r2:Cs),loopAt st2 id=some r2→k (.lit (.bool jump.isNone)) (Bl st2 id { r2 with state:=if jump.isNone then .ready else .done,pending:=jump}) →
    ∃ v w',(Instr.endRound (φ.f id).b jump).run P w2=.ok v w'∧Ca φ st w k (.returned v) w':=fun jump r2 ho2 hkk=>by
   obtain⟨L2,m1,m2,m3,m4,m5,m6,m7,m8,m9⟩:=hr3.obj id _ (Dl ho2)
   rw[hb2] at m1
   obtain⟨hr4,hf4⟩:=hr3.loop (r':={ r2 with state:=if jump.isNone then .ready else .done,pending:=jump}) ho2 (L:=L2) (L':={ L2 with state:=if jump.isNone then .ready else .done,pending:=jump}) (by rw[hb2];exact m1) rfl rfl rfl rfl rfl rfl rfl rfl rfl rfl rfl rfl
   rw[hb2] at hr4 hf4
   exact⟨_,_,run_endRound (P:=P) jump m1,.lit (.bool jump.isNone),.bool jump.isNone,_,φ2,rfl,hkk,.lit _,he1.trans he2,hr4,hf1.trans (hf2.trans (hf3.trans hf4))⟩
  cases e with
  | normal=>obtain⟨r2,ho2,hkk⟩:=hk2;exact fin none r2 ho2 hkk
  | ret=>obtain⟨r2,ho2,hkk⟩:=hk2;exact fin (some .ret) r2 ho2 hkk
  | exit x=>obtain⟨r2,ho2,hkk⟩:=hk2;exact fin (some (.exit x)) r2 ho2 hkk
  | goto l=>obtain⟨r2,ho2,hkk⟩:=hk2;exact fin (some (.goto l)) r2 ho2 hkk
  | panic c=>exact hk2.elim
  | outgrown=>exact hk2.elim
 | exit x=>exact hk.elim
 | goto l=>exact hk.elim
 | ret=>exact hk.elim
 | panic c=>exact hk.elim
 | outgrown=>exact hk.elim
def Oh (P:Program)(rd:Option Nat)(lid:Nat)(Q:Exit→Fm→St→Prop)(f:Fm):AV→St→Prop:=fun _ st =>
 ∃ r,loopAt st lid=some r∧r.state≠.busy ∧
  (match r.pending with
   | none=>Q .normal f (Bl st lid { r with state:=.exhausted})
   | some c=>SW P rd c Q f (Bl st lid { r with state:=.exhausted}))
theorem Ht {rd:Option Nat}{lid:Nat}{Q:Exit→Fm→St→Prop}{f:Fm}{φ φ1:Fi}{st st1:St}{w w1:World}{a:Act}{n:Nat}(hrd:∀ id,rd=some id→id<φ.n)(he:Ext φ φ1)(hlid:lid<φ1.n)(ha:Cz φ1 f a)(hf:Fr φ st w φ1 st1 w1)
  {e:Ending}{w':World}(h:Ca φ1 st1 w1 (Oh P rd lid Q f) e w'):rangePost (FW (rdB φ rd)) n P (φ1.f lid).b (Eg φ st w Q) a e w':=by
 obtain⟨v,cv,st2,φ2,rfl,⟨r,ho,hs,hk⟩,_,he2,hr2,hf2⟩:=h
 obtain⟨L,g1,g2,g3,g4,g5,g6,g7,g8,g9⟩:=hr2.obj lid _ (Dl ho)
 have hb:(φ2.f lid).b=(φ1.f lid).b:=by rw[he2.f lid hlid]
 obtain⟨hr3,hf3⟩:=hr2.loop (r':={ r with state:=.exhausted}) ho (L:=L) (L':={ L with state:=.exhausted}) g1 rfl g3 rfl rfl rfl rfl rfl rfl rfl rfl rfl rfl
 rw[hb] at g1 hr3 hf3
 have hend:=run_endLoop (P:=P) g1 (by rw[g2];exact hs)
 generalize w'.putObj (φ1.f lid).b (.loop { L with state:=.exhausted})=w4 at hr3 hf3 hend
 generalize Bl st2 lid { r with state:=.exhausted}=st3 at hr3 hf3 hk
 refine⟨_,_,hend,?_⟩
 rw[g3]
 cases hp:r.pending with
 | none =>
  rw[hp] at hk
  exact⟨f,_,φ2,hk,he.trans he2,hr3,ha.mono he2,hf.trans (hf2.trans hf3)⟩
 | some c =>
  rw[hp] at hk
  have h4:=hk φ2 _ a n (fun id hi=>Nat.lt_of_lt_of_le (hrd id hi) (Nat.le_trans he.n he2.n)) hr3 (ha.mono he2)
  rw[Dd (he.trans he2) hrd] at h4
  exact wpIn_mono h4 fun e a' w' hl=>hl.trans (he.trans he2) (hf.trans (hf2.trans hf3))
theorem SW.rangeFunc {g:Operand}{ps:Array Tmp}{assign body:Code}{Q:Exit→Fm→St→Prop}{f:Fm}{st:St}{gf:FuncId} {first caps:List AV}(hg:Operand.av f.ts g=.fn (.func gf) first caps)(hent:Enters P gf)
  (h:At P gf (first++[.yld (st.n+1)]++caps) ((st.push .dfr).push (.loop { state:=.ready,pending:=none,tmps:=f.ts,params:=ps,assign,body,dfid:=st.n}))
   (Oh P none (st.n+1) Q { f with dm:=st.n::f.dm})):SW P none (.rangeFunc g ps assign body) Q f st:=by
 intro φ w a n h1 hr ha
 refine wpIn_rangeFunc fun fn _=>?_
 have hp1:=hr.push (.deferred (some [])) .dfr ⟨w.heap.size,0,0⟩ rfl (by show _=_;rw[Fi.Ai];exact Bi w _)
 have hn1:(φ.push ⟨w.heap.size,0,0⟩).n=φ.n+1:=rfl
 have hp2:=hp1.1.push (.loop { state:=.ready,pending:=none,fn,tmps:=a.tmps,params:=ps,assign,body,defers:=w.heap.size}) (.loop { state:=.ready,pending:=none,tmps:=f.ts,params:=ps,assign,body,dfid:=st.n}) ⟨w.heap.size+1,0,0⟩ (by rw[Dv])
  ⟨_,by rw[Fi.Ai];have:=Bi (w.alloc (.deferred (some []))) (.loop { state:=.ready,pending:=none,fn,tmps:=a.tmps,params:=ps,assign,body,defers:=w.heap.size});rwa [Dv] at this,
   rfl,rfl,(ha.ts.mono ((φ.Aw _).trans ((φ.push _).Aw _))),rfl,rfl,rfl,by simp[Fi.push,hr.n];omega,by
   show w.heap.size=_
   rw[←hr.n,((φ.push ⟨w.heap.size,0,0⟩).Aw _).f φ.n (by rw[hn1];omega),Fi.Ai]⟩
 have he:Ext φ ((φ.push ⟨w.heap.size,0,0⟩).push ⟨w.heap.size+1,0,0⟩):=(φ.Aw _).trans ((φ.push _).Aw _)
 have hfa:((φ.push ⟨w.heap.size,0,0⟩).push ⟨w.heap.size+1,0,0⟩).f φ.n=⟨w.heap.size,0,0⟩:=by rw[((φ.push ⟨w.heap.size,0,0⟩).Aw _).f φ.n (by rw[hn1];omega),Fi.Ai]
 have hfb:((φ.push ⟨w.heap.size,0,0⟩).push ⟨w.heap.size+1,0,0⟩).f (φ.n+1)=⟨w.heap.size+1,0,0⟩:=Fi.Ai _ _
 have hpn:((φ.push ⟨w.heap.size,0,0⟩).push ⟨w.heap.size+1,0,0⟩).n=φ.n+2:=rfl
 have ha2:Cz ((φ.push ⟨w.heap.size,0,0⟩).push ⟨w.heap.size+1,0,0⟩) { f with dm:=st.n::f.dm} { a with defers:=[{ target:=.collected w.heap.size,args:=#[] }]++a.defers}:=by
  have h0:=ha.mono he
  refine⟨h0.ts,?_,fun id hi=>?_⟩
  ·rw[h0.dm,List.map_cons,←hr.n,hfa];rfl
  ·rcases List.mem_cons.1 hi with rfl|hi
   ·rw[hpn,hr.n];omega
   ·exact h0.lt id hi
 have hgv:=Bm ha.ts g
 rw[hg] at hgv
 obtain⟨us,vs,hv,hu,hvv⟩:=hgv.Gf
 have hyl:VR ((φ.push ⟨w.heap.size,0,0⟩).push ⟨w.heap.size+1,0,0⟩) (.yld (st.n+1)) (.func (.yield (w.heap.size+1)) #[] #[]):=by
  have:=VR.yld (φ:=(φ.push ⟨w.heap.size,0,0⟩).push ⟨w.heap.size+1,0,0⟩) (φ.n+1) (by rw[hpn];omega)
  rw[hfb] at this
  rw[←hr.n];exact this
 have hcall:=h _ _ (us++[Value.func (.yield (w.heap.size+1)) #[] #[]]++vs) (n-1) hp2.1 (((hu.mono he).append (.cons hyl .nil)).append (hvv.mono he))
 have hloop:=run_enterLoop_outer (P:=P) (w:=w) fn a.tmps ps assign body
 generalize (w.alloc (.deferred (some []))).alloc (.loop { state:=.ready,pending:=none,fn,tmps:=a.tmps,params:=ps,assign,body,defers:=w.heap.size})=W2 at hp2 hcall hloop
 refine⟨w.heap.size+1,_,W2,{ target:=.fn (.func gf) vs.toArray,args:=us.toArray++#[Value.func (.yield (w.heap.size+1)) #[] #[]] },W2,gf,(us++[Value.func (.yield (w.heap.size+1)) #[] #[]]++vs).toArray,W2,hloop,?_,fun _ _=>trivial,?_,fun h=>(by cases h),?_⟩
 ·have hm:Array.map a.eval #[Operand.const (Value.func (Fn.yield (w.heap.size+1)) #[] #[])]=#[Value.func (Fn.yield (w.heap.size+1)) #[] #[]]:=by simp[Act.eval]
  simp only [resolve,hv,Deferred.ofValue,Sem.run_pure,hm]
 ·simp only [invoke]
  rw[hent]
  congr 2
  apply Array.ext'
  simp
 ·refine CallsIn.mono (F:=FW none) hcall fun e w' hp=>?_
  have:=Ht (P:=P) (n:=n) (rd:=none) h1 he (by rw[hpn,hr.n];omega) ha2 (hp1.2.trans hp2.2) hp
  rw[←hr.n,hfb] at this
  exact this
theorem Nj {w:World}{l:Nat}{r:Loop}(h:w.heap[l]?=some (.loop r))(fn:FuncId)(tmps:Array Value)(ps:Array Tmp)(assign body:Code) :
  (Instr.enterLoop fn tmps ps assign body (some l)).run P w=.ok (w.heap.size,[]) (w.alloc (.loop { state:=.ready,pending:=none,fn,tmps,params:=ps,assign,body,defers:=r.defers})):=by
 unfold Instr.enterLoop
 simp only [Sem.run_bind,run_getLoop h,run_newObj_alloc,Result.andThen,Sem.run_pure]
theorem SW.Zi {id0:Nat}{r0:Cs}{g:Operand}{ps:Array Tmp}{assign body:Code}{Q:Exit→Fm→St→Prop}{f:Fm}{st:St}{gf:FuncId} {first caps:List AV}(ho:loopAt st id0=some r0)(hg:Operand.av f.ts g=.fn (.func gf) first caps)(hent:Enters P gf)
  (h:At P gf (first++[.yld st.n]++caps) (st.push (.loop { state:=.ready,pending:=none,tmps:=f.ts,params:=ps,assign,body,dfid:=r0.dfid}))
   (Oh P (some id0) st.n Q f)):SW P (some id0) (.rangeFunc g ps assign body) Q f st:=by
 intro φ w a n h1 hr ha
 have hid0:id0<φ.n:=h1 id0 rfl
 obtain⟨L,g1,g2,g3,g4,g5,g6,g7,g8,g9⟩:=hr.obj id0 _ (Dl ho)
 refine wpIn_rangeFunc fun fn _=>?_
 have hp2:=hr.push (.loop { state:=.ready,pending:=none,fn,tmps:=a.tmps,params:=ps,assign,body,defers:=L.defers}) (.loop { state:=.ready,pending:=none,tmps:=f.ts,params:=ps,assign,body,dfid:=r0.dfid}) ⟨w.heap.size,0,0⟩ rfl
  ⟨_,by rw[Fi.Ai];exact Bi w _,rfl,rfl,ha.ts.mono (φ.Aw _),rfl,rfl,rfl,by rw[Fi.Js];exact Nat.lt_succ_of_lt g8,by
   show L.defers=_
   rw[(φ.Aw _).f r0.dfid g8];exact g9⟩
 have he:Ext φ (φ.push ⟨w.heap.size,0,0⟩):=φ.Aw _
 have hfb:(φ.push ⟨w.heap.size,0,0⟩).f φ.n=⟨w.heap.size,0,0⟩:=Fi.Ai _ _
 have hpn:(φ.push ⟨w.heap.size,0,0⟩).n=φ.n+1:=rfl
 have hgv:=Bm ha.ts g
 rw[hg] at hgv
 obtain⟨us,vs,hv,hu,hvv⟩:=hgv.Gf
 have hyl:VR (φ.push ⟨w.heap.size,0,0⟩) (.yld st.n) (.func (.yield w.heap.size) #[] #[]):=by
  have:=VR.yld (φ:=φ.push ⟨w.heap.size,0,0⟩) φ.n (by rw[hpn];omega)
  rw[hfb] at this
  rw[←hr.n];exact this
 have hcall:=h _ _ (us++[Value.func (.yield w.heap.size) #[] #[]]++vs) (n-1) hp2.1 (((hu.mono he).append (.cons hyl .nil)).append (hvv.mono he))
 have hloop:=Nj (P:=P) g1 fn a.tmps ps assign body
 generalize w.alloc (.loop { state:=.ready,pending:=none,fn,tmps:=a.tmps,params:=ps,assign,body,defers:=L.defers})=W2 at hp2 hcall hloop
 refine⟨w.heap.size,_,W2,{ target:=.fn (.func gf) vs.toArray,args:=us.toArray++#[Value.func (.yield w.heap.size) #[] #[]] },W2,gf,(us++[Value.func (.yield w.heap.size) #[] #[]]++vs).toArray,W2,hloop,?_,fun _ _=>trivial,?_,fun h=>(by cases h),?_⟩
 ·have hm:Array.map a.eval #[Operand.const (Value.func (Fn.yield w.heap.size) #[] #[])]=#[Value.func (Fn.yield w.heap.size) #[] #[]]:=by simp[Act.eval]
  simp only [resolve,hv,Deferred.ofValue,Sem.run_pure,hm]
 ·simp only [invoke]
  rw[hent]
  congr 2
  apply Array.ext'
  simp
 ·refine CallsIn.mono (F:=FW (rdB φ (some id0))) hcall fun e w' hp=>?_
  have:=Ht (P:=P) (n:=n) (rd:=some id0) (a:=a) h1 he (by rw[hpn,hr.n];omega) (ha.mono he) hp2.2 hp
  rw[←hr.n,hfb] at this
  exact this
end Go.Ev
