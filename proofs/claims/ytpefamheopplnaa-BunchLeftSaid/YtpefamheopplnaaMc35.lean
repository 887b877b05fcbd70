/- Own work of the verifier of watercress: FzC24, FzD2, FzD3, FzG5, FzG6, FzG7, FzD4. -/
import Derived.Test.YtpefamheopplnaaMc34
import Derived.Test.YtpefamheopplnaaMc33
set_option linter.unusedVariables false
set_option linter.unusedSimpArgs false
namespace Go.Fz
open Go.Proofs
set_option maxRecDepth 100000
def dN (n:Nat)(fl:Nat→Int)(x:Int):Bool:=decide (∃ i,i<n∧fl i=x)
theorem lZ (n:Nat)(ex:Bool)(fl:Nat→Int)(x:Int)(hn:n<1000):∃ r:Int,Pure Try.prog 124 [Ak n ex fl,iV x] (iV r)∧((0≤r)↔∃ i,i<n∧fl i=x):=by
 obtain⟨O,hO⟩:∃ O:Ar,O=std:=⟨_,rfl⟩
 by_cases hex:∃ i,i<n∧fl i=x
 ·
  obtain⟨k,⟨hk,hkx⟩,hmin⟩:∃ k,(k<n∧fl k=x)∧∀ j,j<k→¬ fl j=x:=by
   obtain⟨i,hi,hix⟩:=hex
   have:∀ m,∀ i,i≤m→i<n→fl i=x→∃ k,(k<n∧fl k=x)∧∀ j,j<k→¬ fl j=x:=fun m=>by
    induction m with
    | zero=>exact fun i h1 h2 h3=>⟨i,⟨h2,h3⟩,fun j hj=>by omega⟩
    | succ m ih =>
     intro i h1 h2 h3
     by_cases hq:∃ j,j<i∧fl j=x
     ·obtain⟨j,hj,hjx⟩:=hq
      exact ih j (by omega) (by omega) hjx
     ·exact⟨i,⟨h2,h3⟩,fun j hj hjx=>hq ⟨j,hj,hjx⟩⟩
   exact this i i (Nat.le_refl _) hi hix
  refine⟨k,?_,by constructor;exact fun _=>hex;exact fun _=>by omega⟩
  refine Ae tok 3 Try.func124 fZ rfl ⟨Ap n ex fl,Bq,trivial⟩ Below.lit ?_
  refine SW.Ab tok hO (by cbv<;>rfl) (by trivial) ?_
  refine SW.seq ?_
  refine SW.Ab tok hO (by cbv<;>rfl) (by trivial) ?_
  refine(SW.block (SW.Gu (fun i:Nat=>⟨⟨19,getT [(0,Ak n ex fl),(1,iV x),(7,iV n),(8,iV i)]⟩,[]⟩) (fun _=>⟨[],0⟩) (fun i=>n-i) (fun i=>i≤k) 0
   (fun _=>rfl) (Nat.zero_le _) (Cw.by rfl rfl (by simp) (Nat.le_refl _) (Nat.le_refl _) ⟨⟨rfl,.inl rfl⟩,⟨rfl,.inl rfl⟩,⟨rfl,.inl rfl⟩,⟨rfl,.inl rfl⟩,trivial⟩ trivial) fun i hi=>?_))
  refine SW.Ab tok hO (by cbv<;>rfl) (by trivial) ?_
  refine SW.seq (SW.Bd (by cbv<;>rfl) (fun h=>SW.skip ?_) (fun h=>SW.exit ?_))
  ·have hlt:i<n:=by omega
   have h0:(0:Int)≤Int.ofNat i:=Int.natCast_nonneg i
   refine SW.seq (SW.block ?_)
   refine SW.Ab tok hO (by cbv<;>rfl) (by trivial) ?_
   refine SW.Ab tok hO (by cbv<;>rfl) ?_ ?_
   ·exact⟨h0,Int.ofNat_lt.2 hlt⟩
   refine SW.Bd (by cbv<;>rfl) (fun h'=>?_) (fun h'=>SW.skip ?_)
   ·refine SW.Ab tok hO (by cbv<;>rfl) (by trivial) ?_
    refine SW.ret ⟨_,_,rfl,rfl,Eqv.int ?_⟩
    have:x=fl i:=by subst hO;simpa[std] using h'
    have hik:i=k:=by
     rcases Nat.lt_or_ge i k with h1|h1
     ·exact absurd this.symm (hmin i h1)
     ·omega
    rw[hik];rfl
   ·have hne:¬ x=fl i:=by subst hO;simpa[std] using h'
    have hik:i≠k:=fun e=>hne (by rw[e];exact hkx.symm)
    refine SW.run tok hO (by cbv<;>rfl) (by trivial) ?_
    exact⟨i+1,by omega,by omega,Cw.by rfl rfl (by simp) (Nat.le_refl _) (Nat.zero_le _) ⟨⟨rfl,.inr (Ap n ex fl)⟩,⟨rfl,.inr Below.lit⟩,⟨rfl,.inr Below.lit⟩,⟨Dp hO (by omega),.inr Below.lit⟩,trivial⟩ trivial⟩
  ·exfalso
   have hge:n≤i:=by subst hO;simpa[std] using h
   omega
 ·refine⟨-1,?_,⟨fun h=>absurd h (by omega),fun h=>absurd h hex⟩⟩
  refine Ae tok 3 Try.func124 fZ rfl ⟨Ap n ex fl,Bq,trivial⟩ Below.lit ?_
  refine SW.Ab tok hO (by cbv<;>rfl) (by trivial) ?_
  refine SW.seq ?_
  refine SW.Ab tok hO (by cbv<;>rfl) (by trivial) ?_
  refine(SW.block (SW.Gu (fun i:Nat=>⟨⟨19,getT [(0,Ak n ex fl),(1,iV x),(7,iV n),(8,iV i)]⟩,[]⟩) (fun _=>⟨[],0⟩) (fun i=>n-i) (fun i=>i≤n) 0
   (fun _=>rfl) (Nat.zero_le _) (Cw.by rfl rfl (by simp) (Nat.le_refl _) (Nat.le_refl _) ⟨⟨rfl,.inl rfl⟩,⟨rfl,.inl rfl⟩,⟨rfl,.inl rfl⟩,⟨rfl,.inl rfl⟩,trivial⟩ trivial) fun i hi=>?_))
  refine SW.Ab tok hO (by cbv<;>rfl) (by trivial) ?_
  refine SW.seq (SW.Bd (by cbv<;>rfl) (fun h=>SW.skip ?_) (fun h=>SW.exit ?_))
  ·have hlt:i<n:=by subst hO;simpa[std] using h
   have h0:(0:Int)≤Int.ofNat i:=Int.natCast_nonneg i
   refine SW.seq (SW.block ?_)
   refine SW.Ab tok hO (by cbv<;>rfl) (by trivial) ?_
   refine SW.Ab tok hO (by cbv<;>rfl) ?_ ?_
   ·exact⟨h0,Int.ofNat_lt.2 hlt⟩
   refine SW.Bd (by cbv<;>rfl) (fun h'=>?_) (fun h'=>SW.skip ?_)
   ·exfalso
    have:x=fl i:=by subst hO;simpa[std] using h'
    exact hex ⟨i,hlt,this.symm⟩
   ·refine SW.run tok hO (by cbv<;>rfl) (by trivial) ?_
    exact⟨i+1,by omega,by omega,Cw.by rfl rfl (by simp) (Nat.le_refl _) (Nat.zero_le _) ⟨⟨rfl,.inr (Ap n ex fl)⟩,⟨rfl,.inr Below.lit⟩,⟨rfl,.inr Below.lit⟩,⟨Dp hO (by omega),.inr Below.lit⟩,trivial⟩ trivial⟩
  ·refine SW.Ab tok hO (by cbv<;>rfl) (by trivial) ?_
   refine SW.ret ⟨_,_,rfl,rfl,Eqv.of rfl⟩
theorem bP (n:Nat)(ex:Bool)(fl:Nat→Int)(x:Int)(hn:n<1000):Pure Try.prog 108 [Ak n ex fl,iV x] (.sb (dN n fl x)):=by
 obtain⟨O,hO⟩:∃ O:Ar,O=std:=⟨_,rfl⟩
 obtain⟨r,h1,h2⟩:=lZ n ex fl x hn
 refine Ae tok 3 Try.func108 nK rfl ⟨Ap n ex fl,Bq,trivial⟩ Below.sb ?_
 refine SW.Ab tok hO (by cbv<;>rfl) (by trivial) ?_
 refine SW.Ab tok hO (by cbv<;>rfl) (by trivial) ?_
 refine Ac.Rm h1 (by cbv<;>rfl) fun v hv=>?_
 refine Ac.run tok hO (by cbv<;>rfl) (by trivial) ?_
 refine SW.ret ⟨_,_,rfl,rfl,Eqv.sb (Bool.eq_iff_iff.2 ?_)⟩
 subst hO;subst hv
 simp only [std,dN,decide_eq_true_eq]
 exact h2
def gF (n:Nat)(ex:Bool)(b:Nat→Bool):AV:=.isl n 1 ex (fun i _=>.sb (b i))
theorem Rp (n:Nat)(ex:Bool)(b:Nat→Bool):Below 0 (gF n ex b):=Below.isl fun _ _ _ _=>Below.sb
theorem jF (n:Nat)(ex:Bool)(b:Nat→Bool)(g0:FuncId) (first caps:List AV)(p:Nat→Bool)(hb:Below 0 (.fn (.func g0) first caps))(hn:n<4611686018427387904)(hp:∀ i,i<n→Pure Try.prog g0 (first++[iV i,.sb (b i)]++caps) (.sb (p i))) :
  Pure Try.prog 106 [gF n ex b,.fn (.func g0) first caps] (.sb (Dh n p)):=by
 obtain⟨O,hO⟩:∃ O:Ar,O=std:=⟨_,rfl⟩
 have hnat:∀ i:Nat,O.nat (Int.ofNat i)=i:=fun i=>by subst hO;rfl
 refine Ae tok 3 Try.func106 nM rfl ⟨Rp n ex b,hb,trivial⟩ Below.sb ?_
 refine SW.Ab tok hO (by cbv<;>rfl) (by trivial) ?_
 refine SW.seq ?_
 refine SW.Ab tok hO (by cbv<;>rfl) (by trivial) ?_
 refine(SW.block (SW.Gu (fun i:Nat=>⟨⟨20,getT [(1,.fn (.func g0) first caps),(7,gF n ex b),(8,iV n),(9,iV i)]⟩,[]⟩) (fun _=>⟨[],0⟩) (fun i=>n-i) (fun i=>i≤n∧∀ j,j<i→p j=true) 0
  (fun _=>rfl) ⟨Nat.zero_le _,fun j hj=>absurd hj (Nat.not_lt_zero j)⟩ (Cw.by rfl rfl (by simp) (Nat.le_refl _) (Nat.le_refl _) ⟨⟨rfl,.inl rfl⟩,⟨rfl,.inl rfl⟩,⟨rfl,.inl rfl⟩,⟨rfl,.inl rfl⟩,trivial⟩ trivial) fun i ⟨hi,hall⟩=>?_))
 refine SW.Ab tok hO (by cbv<;>rfl) (by trivial) ?_
 refine SW.seq (SW.Bd (by cbv<;>rfl) (fun h=>SW.skip ?_) (fun h=>SW.exit ?_))
 ·have hlt:i<n:=by subst hO;simpa[std] using h
  refine SW.seq (SW.block ?_)
  refine SW.Ab tok hO (by cbv<;>rfl) ?_ ?_
  ·exact⟨Int.natCast_nonneg i,Int.ofNat_lt.2 hlt⟩
  refine SW.Ab tok hO (by cbv<;>rfl) (by trivial) ?_
  refine Ac.Ey (e:=p i) (args:=first++[iV (Int.ofNat i),.sb (b (O.nat (Int.ofNat i)))]++caps) (by rw[hnat];exact hp i hlt) (by cbv<;>rfl) fun r hb'=>?_
  refine Ac.run tok hO (by cbv<;>rfl) (by trivial) ?_
  refine SW.Bd (by cbv<;>rfl) (fun h'=>?_) (fun h'=>SW.skip ?_)
  ·refine SW.Ab tok hO (by cbv<;>rfl) (by trivial) ?_
   refine SW.ret ⟨_,_,rfl,rfl,Eqv.bool (Bool.eq_iff_iff.2 ?_)⟩
   subst hO
   simp[std,hb'] at h'
   simp only [Bool.false_eq_true,Dh,decide_eq_true_eq,false_iff]
   intro hq
   rw[hq i hlt] at h'
   cases h'
  ·refine SW.run tok hO (by cbv<;>rfl) (by trivial) ?_
   refine⟨i+1,by omega,⟨by omega,fun j hj=>?_⟩,Cw.by rfl rfl (by simp) (Nat.le_refl _) (Nat.zero_le _) ⟨⟨rfl,.inr hb⟩,⟨rfl,.inr (Rp n ex b)⟩,⟨rfl,.inr Bq⟩,⟨Dp hO (by omega),.inr Bq⟩,trivial⟩ trivial⟩
   rcases Nat.lt_succ_iff_lt_or_eq.1 hj with hj|rfl
   ·exact hall j hj
   ·subst hO;simp[std,hb'] at h';exact h'
 ·refine SW.Ab tok hO (by cbv<;>rfl) (by trivial) ?_
  refine SW.ret ⟨_,_,rfl,rfl,Eqv.bool (Bool.eq_iff_iff.2 ?_)⟩
  have hge:n≤i:=by subst hO;simpa[std] using h
  simp only [Dh,decide_eq_true_eq,true_iff]
  exact fun j hj=>hall j (by omega)
def mkB (b:Mk):Nat→Bool
 | 0=>b.1
 | 1=>b.2.1
 | 2=>b.2.2.1
 | 3=>b.2.2.2.1
 | _=>b.2.2.2.2
theorem Ym (n:Nat)(ex:Bool)(fl:Nat→Int)(hn:n<1000)(i:Nat)(b:Bool):Pure Try.prog 107 [iV i,.sb b,.ip 1 0 (fun _=>Ak n ex fl)] (.sb (!b||dN n fl i)):=by
 obtain⟨O,hO⟩:∃ O:Ar,O=std:=⟨_,rfl⟩
 have hc:=bP n ex fl i hn
 refine Ae tok 3 Try.func107 nL rfl ⟨Below.lit,Below.sb,Below.ip fun _ _=>Ap _ _ _,trivial⟩ Below.sb ?_
 refine SW.Ab tok hO (by cbv<;>rfl) (by trivial) ?_
 refine SW.Ab tok hO (by cbv<;>rfl) (by trivial) ?_
 refine Ac.Bs (by cbv<;>rfl) (fun h=>?_) (fun h=>?_)
 ·refine Ac.run tok hO (by cbv<;>rfl) (by trivial) ?_
  refine SW.ret ⟨_,_,rfl,rfl,Eqv.bool ?_⟩
  have:b=false:=by subst hO;simpa[std] using h
  rw[this];rfl
 ·have:b=true:=by subst hO;simpa[std] using h
  refine Ac.run tok hO (by cbv<;>rfl) (by trivial) ?_
  refine Ac.Al hc (by cbv<;>rfl) ?_
  refine Ac.run tok hO (by cbv<;>rfl) (by trivial) ?_
  refine SW.ret ⟨_,_,rfl,rfl,Eqv.sb ?_⟩
  rw[this];rfl
def wholeAt (ops:Array Oper)(i:Nat)(f:Fm):Option (TypeId × AV):=match ops[i]? with
 | none=>none
 | some o=>match wantA ops f.ts o with
  | some true=>match o.op with
   | .slice t x none none none=>some (t,Operand.av f.ts x)
   | _=>none
  | _=>none
def arrW (T:Ti)(t n sz:Nat):Bool:=match T t with
 | some i=>match i.desc with
  | .array m e=>match T e with
   | some j=>Nat.beq m n&&Nat.beq j.size sz
   | none=>false
  | _=>false
 | none=>false
theorem Ac.kA {P:Program}{T:Ti}(hT:TOk P T){rd:Option Nat}{ops:Array Oper}{l:List Nat}{K:Fm→St→Prop}{f:Fm}{st:St}{j t id off n sz:Nat}{fm:Option Nat}{cs:List AV}
  (hc:wholeAt ops j f=some (t,.ptr id off))(hb:arrW T t n sz=true)(hx:st.h.get id=some (.cells fm false cs))(hl:off+n*sz≤cs.length)
  (h:Ac P rd ops l K (putAt ops j f (.sl id off n sz true)) st):Ac P rd ops (j::l) K f st:=by
 unfold wholeAt at hc
 split at hc
 ·cases hc
 ·rename_i o ho
  split at hc
  ·rename_i hw
   split at hc
   ·rename_i t' x hop
    simp only [Option.some.injEq,Prod.mk.injEq] at hc
    obtain⟨rfl,h2⟩:=hc
    unfold arrW at hb
    split at hb
    ·rename_i i hi1
     split at hb
     ·rename_i m e hd
      split at hb
      ·rename_i jj hj
       simp only [Bool.and_eq_true] at hb
       obtain rfl:=Nat.eq_of_beq_eq_true hb.1
       obtain rfl:=Nat.eq_of_beq_eq_true hb.2
       have hput:∀ v,putAt ops j f v=f.put o.dst v:=fun v=>by simp[putAt,ho]
       rw[hput] at h
       refine Ac.Db hT ho hw (r:=.sl id off m jj.size true) ?_ h
       simp only [evG,hop,h2,Option.map_none]
       unfold sliceA
       simp only [hi1,hd,hj,hx,natOr]
       rw[if_pos ⟨Nat.zero_le _,Nat.le_refl _,by simp,hl⟩]
       simp
      ·cases hb
     ·cases hb
    ·cases hb
   ·cases hc
  ·cases hc
def Fp (b:Mk)(n:Nat)(fl:Nat→Int):Bool:=Dh 5 fun i=>!(mkB b i)||dN n fl i
set_option maxHeartbeats 4000000 in
theorem Yn (b:Mk)(n:Nat)(ex:Bool)(fl:Nat→Int)(hn:n<1000):Pure Try.prog 78 [mkV b,Ak n ex fl] (.sb (Fp b n fl)):=by
 obtain⟨O,hO⟩:∃ O:Ar,O=std:=⟨_,rfl⟩
 have hw:=jF 5 true (mkB b) 107 [] [.ip 1 0 (fun _=>Ak n ex fl)] (fun i=>!(mkB b i)||dN n fl i) (Below.fn (Br.ok trivial) (Br.ok ⟨Below.ip fun _ _=>Ap _ _ _,trivial⟩)) (by omega) (fun i _=>Ym n ex fl hn i (mkB b i))
 have hw':Pure Try.prog 106 [gF 5 true (mkB b),.fn (.func 107) [] [.ip 1 0 (fun _=>Ak n ex fl)]] (.sb (Fp b n fl)):=hw
 obtain⟨b0,b1,b2,b3,b4⟩:=b
 generalize Fp (b0,b1,b2,b3,b4) n fl=R at hw' ⊢
 refine Ae tok 3 Try.func78 tP rfl ⟨iN _,Ap _ _ _,trivial⟩ Below.sb ?_
 refine SW.Ab tok hO (by cbv<;>rfl) (by trivial) ?_
 refine SW.seq (SW.runN tok hO 0 (by cbv<;>rfl) (by trivial) ?_)
 refine Ac.kA tok (id:=0) (off:=0) (n:=5) (sz:=1) (by cbv<;>rfl) (by kernel_rfl) (by rfl) (by show 0+5*1≤5;omega) ?_
 refine Ac.runN tok hO 1 (by cbv<;>rfl) (by trivial) ?_
 refine Ac.freeze (fun _=>true) 3 (by rfl) ?_
 refine Ac.Al (Pure.eqv hw' ?_) (by cbv<;>rfl) ?_
 ·refine .cons (Eqv.isl rfl fun i k hi hk=>?_) (.cons (Eqv.fn .nil (.cons (Eqv.ip fun j hj=>?_) .nil)) .nil)
  ·obtain rfl:k=0:=by omega
   obtain rfl|rfl|rfl|rfl|rfl:i=0∨i=1∨i=2∨i=3∨i=4:=by omega
   all_goals exact Eqv.of rfl
  ·obtain rfl:j=0:=by
    have:j<1:=hj
    omega
   exact Eqv.of rfl
 refine Ac.run tok hO (by cbv<;>rfl) (by trivial) ?_
 exact SW.ret ⟨_,_,rfl,rfl,Eqv.of rfl⟩
end Go.Fz
namespace Go.Fz
open Go.Proofs
set_option maxRecDepth 100000
section
variable {P:Program}
theorem SW.wL {rd:Option Nat}{c:Code}{Q:Exit→Fm→St→Prop}{f f2:Fm}{st st2:St}{ρ:Nat→Nat}(hw:Bu st.n ρ f st f2 st2)(h:SW P rd c Q f2 st2):SW P rd c Q f st:=by
 intro φ w a n h1 h2 h3
 obtain⟨k1,k2,k3⟩:=hw.ok h2 h3
 have he:Ext φ (Hm φ ρ st2.n):=⟨by show φ.n≤st2.n;rw[h2.n];exact hw.lo,fun id hid=>by show φ.f (ρ id)=_;rw[hw.idn id (by rw[←h2.n];exact hid)],fun _ _ hb=>hb⟩
 have h4:=h (Hm φ ρ st2.n) w a n (fun id hid=>Nat.lt_of_lt_of_le (h1 id hid) he.n) k1 k2
 rw[Dd he h1] at h4
 exact wpIn_mono h4 fun e a' w' hl=>hl.trans he k3
theorem Ad.getT {ρ:Nat→Nat}{n:Nat}:∀ {l:List (Nat × AV)},Hl (fun p=>Ad ρ n p.2 p.2) l→∀ i,Ad ρ n (getT l i) (getT l i)
 | [],_,i=>Ad.any
 | (j,a)::r,h,i=>by
  simp only [Fz.getT]
  cases Nat.beq j i with
  | true=>exact h.1
  | false=>exact Ad.getT h.2 i
end
section
variable {β:Type} [DecidableEq β]
def Ve (E:List (β × Nat))(c:Nat):Prop:=(∀ p∈E,p.2<c)∧(E.map (·.2)).Nodup
theorem Ve.upd {E:List (β × Nat)}{c:Nat}(h:Ve E c)(b:β):Ve (Gv E b c) (Nz E b c):=by
 unfold Gv Nz
 split
 ·exact h
 ·refine⟨fun p hp=>?_,?_⟩
  ·rcases List.mem_append.1 hp with hp|hp
   ·have:=h.1 p hp;omega
   ·rw[List.mem_singleton.1 hp]
    show c<c+1;omega
  ·rw[List.map_append,List.nodup_append]
   refine⟨h.2,by simp,fun x hx y hy=>?_⟩
   obtain⟨p,hp,rfl⟩:=List.mem_map.1 hx
   have:=h.1 p hp
   simp at hy
   omega
def pkP (K:Nat→β):Nat→List (β × Nat) × Nat
 | 0=>([],0)
 | i+1=>(Gv (pkP K i).1 (K i) (pkP K i).2,Nz (pkP K i).1 (K i) (pkP K i).2)
theorem Zl (K:Nat→β):∀ n,Ve (pkP K n).1 (pkP K n).2
 | 0=>⟨(fun _ h=>nomatch h),List.nodup_nil⟩
 | n+1=>(Zl K n).upd (K n)
theorem Xh (K:Nat→β)(x:β):∀ n,x∈(pkP K n).1.map (·.1)↔∃ j,j<n∧K j=x
 | 0=>by
  show x∈[]↔_
  exact⟨fun h=>(by cases h),fun⟨_,h,_⟩=>absurd h (Nat.not_lt_zero _)⟩
 | n+1=>by
  show x∈(Gv _ _ _).map (·.1)↔_
  rw[Yq,Xh K x n]
  constructor
  ·rintro(⟨j,h1,h2⟩|h)
   ·exact⟨j,by omega,h2⟩
   ·exact⟨n,by omega,h.symm⟩
  ·rintro⟨j,h1,h2⟩
   by_cases e:j=n
   ·exact .inr (by rw[←e];exact h2.symm)
   ·exact .inl ⟨j,by omega,h2⟩
theorem kF (E:List (β × Nat))(b:β)(c:Nat):(Gv E b c).length≤E.length+1:=by
 unfold Gv;split
 ·omega
 ·rw[List.length_append,List.length_singleton];exact Nat.le_refl _
theorem eW (K:Nat→β):∀ n,(pkP K n).1.length≤n
 | 0=>Nat.le_refl _
 | n+1=>by
  have h1:=eW K n
  have h2:=kF (pkP K n).1 (K n) (pkP K n).2
  show(Gv _ _ _).length≤n+1
  omega
end
def inK (p:Int × Int):Bool:=decide (0≤p.1)&&decide (p.1≤1000000)&&decide (0≤p.2)&&decide (p.2≤1000000)
abbrev PK:={ p:Int × Int // inK p=true}
def pkV (p:PK):AV:=.agg [iV p.1.1,iV p.1.2]
theorem Kk (p:PK):Below 0 (pkV p):=Below.agg (Br.ok ⟨Below.lit,Below.lit,trivial⟩)
theorem Ub:Maps.Keyed Try.prog 121:=Maps.Keyed.of_law (deep_law_laid (m:=3) laid (by omega) (Gy (by kernel_rfl)) (by kernel_rfl) (by kernel_rfl))
theorem wD {n:Int}(h0:0≤n)(h1:n≤1000000):(Lit.int .i64 n).wf=true:=by
 simp[Lit.wf,IntKind.min,IntKind.max,IntKind.signed,IntKind.bits]
 omega
theorem keyOf_pair {P:Program}{t e:TypeId}{f0 f1:Field}{d:Nat}(hu:P.underlying t=some (.struct #[f0,f1]))(hsz:P.types.size=d+1)(h0:f0.type=e)(h1:f1.type=e)(o0:f0.offset=0)(o1:f1.offset=1)(n0:(f0.name != "_")=true)(n1:(f1.name != "_")=true)
  (he:P.underlying e=some (.int .i64))(c1:P.cellsOf t=2)(c3:P.cellsOf e=1)(k1:P.keyType t=true){a b:Int}(ha:(Lit.int .i64 a).wf=true)(hb:(Lit.int .i64 b).wf=true):∃ l,keyOf P t (.agg #[.int .i64 a,.int .i64 b])=some l:=by
 have f1':Value.formed P t (.agg #[.int .i64 a,.int .i64 b])=true:=by simp[Value.formed,hu,c1]
 have hl:∀ x:Int,(Lit.int .i64 x).wf=true→P.keyLits (d+1) e [.int .i64 x]=some [.int .i64 x]:=fun x hx=>by
  unfold Program.keyLits
  rw[he]
  simp[hx]
 have hk:P.keyLits (P.types.size+1) t [.int .i64 a,.int .i64 b]=some [.int .i64 a,.int .i64 b]:=by
  rw[hsz]
  unfold Program.keyLits
  rw[hu]
  simp only [List.length_cons,List.length_nil,c1]
  rw[if_pos ⟨trivial,by simp[n0,n1]⟩]
  simp[h0,h1,o0,o1,c3,hl a ha,hl b hb]
 refine⟨.string (keyBytes [.int .i64 a,.int .i64 b]),?_⟩
 unfold keyOf
 rw[hu]
 simp only [k1,f1',Bool.and_true,if_true]
 show Option.map _ (P.keyLits _ t [.int .i64 a,.int .i64 b])=_
 rw[hk];rfl
theorem sF {a b:Int}(ha:(Lit.int .i64 a).wf=true)(hb:(Lit.int .i64 b).wf=true):∃ l,keyOf Try.prog 121 (.agg #[.int .i64 a,.int .i64 b])=some l :=
 keyOf_pair (e:=3) (d:=207) Try.underlying121 (by kernel_rfl) rfl rfl rfl rfl (by decide) (by decide) Try.underlying3 (by kernel_rfl) (by kernel_rfl) (by kernel_rfl) ha hb
def wN:rK Try.prog 121 pkV where
 den p:=.agg #[.int .i64 p.1.1,.int .i64 p.1.2]
 val φ b u h:=by
  obtain⟨us,rfl,h1⟩:=h.Bz
  match us,h1 with
  | [_,_],.cons h1 (.cons h2 .nil)=>rw[h1.Au,h2.Au]
 key b:=by
  obtain⟨b,h⟩:=b
  simp only [inK,Bool.and_eq_true,decide_eq_true_eq] at h
  exact sF (wD h.1.1.1 h.1.1.2) (wD h.1.2 h.2)
 inj b c h:=by
  obtain⟨⟨b0,b1⟩,_⟩:=b
  obtain⟨⟨c0,c1⟩,_⟩:=c
  simp at h
  simp[h]
noncomputable def enParts:Code × Code:=match nthC 2 (bodyF Try.f59) with
 | .seq _ (.block _ (.rangeFunc _ _ a b))=>(a,b)
 | c=>(c,c)
def enL:List (Nat × AV):=[(3,.ptr 2 0),(4,.ptr 3 0),(5,.ptr 4 0),(7,.fn (.func 99) [] [.ptr 1 0])]
noncomputable def enR:Cs:={ state:=.ready,pending:=none,tmps:=⟨24,getT enL⟩,params:=#[8],assign:=enParts.1,body:=enParts.2,dfid:=5}
noncomputable def enH (g:FuncId)(ME:List (AV × AV × Nat))(cl:Nat)(X:AV):Hp :=
 [(6,.loop enR),(5,.dfr),(4,.cells none false [X]),(3,.cells none false [iV 0,iV 0]),(2,.cells none false [.fn (.func g) [] []]),(1,.cells none true [.mp 0]),(0,.map ME cl)]
set_option maxHeartbeats 8000000 in
theorem jD (g:FuncId)(p q u:Int)(hof:Pure Try.prog g [.agg [iV p,iV q]] (iV u))(ME:List (AV × AV × Nat))(cl:Nat)(it:AObj) :
  Bj Try.prog 6 [.agg [iV p,iV q]] ⟨(9,.cells none false [iV p,iV q])::(7,it)::enH g ME cl nl3,10⟩
   (fun v st'=>v=.lit (.bool true)∧st'=⟨(12,.cells none false [iV u])::(11,.cells none false [iV u])::(10,.cells none false [iV p,iV q])::(9,.cells none false [iV p,iV q])::(7,it)::enH g ME cl (.sl 12 0 1 1 false),13⟩):=by
 obtain⟨O,hO⟩:∃ O:Ar,O=std:=⟨_,rfl⟩
 refine Bj.Fg (r:=enR) rfl rfl ?_
 refine SW.run tok hO (by cbv<;>rfl) (by trivial) ?_
 refine⟨enR,rfl,rfl,SW.block ?_⟩
 obtain⟨RB,hRB⟩:∃ r,r=({ enR with state:=.busy}:Cs):=⟨_,rfl⟩
 rw[←hRB]
 refine SW.runD tok mixed hO (by rfl) (by cbv<;>rfl) (by trivial) ?_
 refine AnyE.Al hof (by cbv<;>rfl) (by cbv<;>rfl) ?_
 refine AnyE.run tok hO (by rfl) (by cbv<;>rfl) (by trivial) ?_
 refine AnyE.Cu tok hO (by cbv<;>rfl) (by cbv<;>rfl) (by trivial) ?_ ?_
 ·exact(by repeat (first|exact trivial|refine And.intro (by first|exact Ba hO (by cbv<;>rfl) (by trivial)|(cbv<;>rfl)) ?_))
 refine AnyE.run tok hO (by rfl) (by cbv<;>rfl) (by trivial) ?_
 refine AnyE.Gr tok (by cbv<;>rfl) (by cbv<;>rfl) (by rfl) (by kernel_rfl) (by rfl) (by rfl) ?_
 refine AnyE.run tok hO (by rfl) (by cbv<;>rfl) (by trivial) ?_
 refine AnyE.eff tok hO (by cbv<;>rfl) (by cbv<;>rfl) (by trivial) ?_
 refine AnyE.done (by rfl) ?_
 refine⟨RB,rfl,rfl,?_⟩
 subst hRB
 rfl
end Go.Fz
namespace Go.Fz
open Go.Proofs
set_option maxRecDepth 100000
set_option maxHeartbeats 8000000 in
theorem jC (g:FuncId)(p q u:Int)(hof:Pure Try.prog g [.agg [iV p,iV q]] (iV u))(ME:List (AV × AV × Nat))(cl:Nat)(S:List Nat)(m:Nat)(hm:m<100000)(fl:Nat→Int)(G:List AV)(hG:G=flatG 1 (Bc fl) (m+1)) :
  Bj Try.prog 6 [.agg [iV p,iV q]] ⟨(9,.cells none false [iV p,iV q])::(7,.iter 0 cl S cl)::enH g ME cl (.sl 8 0 (m+1) 1 false)++[(8,.cells none false G)],10⟩
   (fun v st'=>v=.lit (.bool true)∧∃ o8,st'=⟨(12,.cells (some 8) false (G++[iV u]))::(11,.cells none false [iV u])::(10,.cells none false [iV p,iV q])::(9,.cells none false [iV p,iV q])::(7,.iter 0 cl S cl)::enH g ME cl (.sl 12 0 (m+1+1) 1 false)++[(8,o8)],13⟩):=by
 obtain⟨O,hO⟩:∃ O:Ar,O=std:=⟨_,rfl⟩
 refine Bj.Fg (r:=enR) rfl rfl ?_
 refine SW.run tok hO (by cbv<;>rfl) (by trivial) ?_
 refine⟨enR,rfl,rfl,SW.block ?_⟩
 obtain⟨RB,hRB⟩:∃ r,r=({ enR with state:=.busy}:Cs):=⟨_,rfl⟩
 rw[←hRB]
 refine SW.runD tok mixed hO (by rfl) (by cbv<;>rfl) (by trivial) ?_
 refine AnyE.Al hof (by cbv<;>rfl) (by cbv<;>rfl) ?_
 refine AnyE.run tok hO (by rfl) (by cbv<;>rfl) (by trivial) ?_
 refine AnyE.Cu tok hO (by cbv<;>rfl) (by cbv<;>rfl) (by trivial) ?_ ?_
 ·exact(by repeat (first|exact trivial|refine And.intro (by first|exact Ba hO (by cbv<;>rfl) (by trivial)|(cbv<;>rfl)) ?_))
 refine AnyE.run tok hO (by rfl) (by cbv<;>rfl) (by trivial) ?_
 refine AnyE.Gi (g:=Bc fl) (len:=m+1) tok (by cbv<;>rfl) (by cbv<;>rfl) (by rfl) (by rfl) hG (by kernel_rfl) (by rfl) (by rfl) (by omega) fun G' hG'=>?_
 refine AnyE.run tok hO (by rfl) (by cbv<;>rfl) (by trivial) ?_
 refine AnyE.eff tok hO (by cbv<;>rfl) (by cbv<;>rfl) (by trivial) ?_
 refine AnyE.done (by rfl) ?_
 rw[←hG] at hG'
 subst hG'
 subst hRB
 exact⟨_,rfl,rfl,_,rfl⟩
def vsL (val:PK→Int)(x:List (PK × Nat))(i:Nat):Int:=(x.map fun p=>val p.1).getD i 0
theorem kB (val:PK→Int)(x:List (PK × Nat))(p:PK × Nat):flatG 1 (Bc (vsL val x)) x.length++[iV (val p.1)]=flatG 1 (Bc (vsL val (x++[p]))) (x.length+1):=by
 have h1:flatG 1 (Bc (vsL val (x++[p]))) x.length=flatG 1 (Bc (vsL val x)) x.length:=Fk fun i k hi=>by
  show iV (vsL val (x++[p]) i)=iV (vsL val x i)
  unfold vsL
  rw[List.map_append,List.getD_eq_getElem?_getD,List.getElem?_append_left (by simpa using hi),←List.getD_eq_getElem?_getD]
 have h2:vsL val (x++[p]) x.length=val p.1:=by unfold vsL;simp
 show _=flatG 1 (Bc (vsL val (x++[p]))) x.length++[iV (vsL val (x++[p]) x.length)]
 rw[h1,h2]
theorem Ya (m:Nat):Hc (Du 8 m) 9 (.loop enR) (.loop enR) :=
 .loop rfl rfl rfl rfl rfl rfl (by show 5<9;omega) rfl (Ad.getT (l:=enL) ⟨Ad.ptr (by omega),Ad.ptr (by omega),Ad.ptr (by omega),Ad.fn .nil (.cons (Ad.ptr (by omega)) .nil),trivial⟩)
set_option maxHeartbeats 16000000 in
theorem sP (g:FuncId)(val:PK→Int)(E:List (PK × Nat))(cl:Nat)(hb:Ve E cl)(hE:E.length<100000)(hof:∀ p∈E,Pure Try.prog g [pkV p.1] (iV (val p.1)))(K:AV→St→Prop)
  (hK:∀ (x:List (PK × Nat))(it:AObj),it.fam=none→x.length≤E.length→(∀ p∈x,p∈E)→(∀ p∈E,p∈x)→K (.tup []) ⟨(7,it)::enH g (Bp pkV E) cl (slG 8 1 x.length)++objG 8 1 (Bc (vsL val x)) x.length,9⟩) :
  At Try.prog 99 [.yld 6,.ptr 1 0] ⟨enH g (Bp pkV E) cl nl3,7⟩ K:=by
 obtain⟨O,hO⟩:∃ O:Ar,O=std:=⟨_,rfl⟩
 have hes:∀ x∈Bp pkV E,∃ p∈E,x=(pkV p.1,.lit (.bool true),p.2):=fun x hx=>by
  obtain⟨p,hp,rfl⟩:=List.mem_map.1 hx
  exact⟨p,hp,rfl⟩
 have hborn:((Bp pkV E).all (fun x=>Nat.blt x.2.2 cl)&&Nat.ble cl cl)=true:=by
  rw[Bool.and_eq_true]
  refine⟨List.all_eq_true.2 fun x hx=>?_,by rw[Nat.ble_eq];exact Nat.le_refl _⟩
  obtain⟨p,hp,rfl⟩:=hes x hx
  show Nat.ble _ _=true
  rw[Nat.ble_eq]
  exact hb.1 p hp
 have hmap:(Bp pkV E).map (fun x=>x.2.2)=E.map (·.2):=by simp[Bp,List.map_map,Function.comp_def]
 have hborn2:(Nat.beq cl cl&&Ej (Bp pkV E))=true:=by
  rw[Nat.beq_refl,Bool.true_and]
  unfold Ej
  rw[hmap]
  exact decide_eq_true hb.2
 have hclosed:∀ x∈Bp pkV E,Below 0 x.1∧Below 0 x.2.1:=fun x hx=>by
  obtain⟨p,_,rfl⟩:=hes x hx
  exact⟨Kk _,Below.lit⟩
 have hlenE:(Bp pkV E).length=E.length:=by simp[Bp]
 have hmemE:∀ p∈E,(pkV p.1,AV.lit (.bool true),p.2)∈Bp pkV E:=fun p hp=>List.mem_map.2 ⟨p,hp,rfl⟩
 obtain⟨ME,hME⟩:∃ m,Bp pkV E=m:=⟨_,rfl⟩
 rw[hME] at hes hborn hborn2 hmap hclosed hlenE hmemE hK ⊢
 refine Bb tok Try.func99 rfl ?_
 refine SW.seq (SW.runN tok hO 1 (by cbv<;>rfl) (by trivial) ?_)
 refine Ac.range tok (kt:=121) (by cbv<;>rfl) (by kernel_rfl) (by rfl) ?_
 refine Ac.nil ?_
 refine(SW.block (SW.Mo (fun _:List (PK × Nat)=>⟨⟨14,getT [(0,.yld 6),(1,.ptr 1 0),(5,.ptr 7 0)]⟩,[]⟩) (fun x=>⟨(7,.iter 0 cl (x.map (·.2)) cl)::enH g ME cl (slG 8 1 x.length)++objG 8 1 (Bc (vsL val x)) x.length,9⟩)
  (fun x=>(ME.filter fun y=>!((x.map (·.2)).contains y.2.2)).length) (fun x=>(∀ p∈x,p∈E)∧(ME.filter fun y=>!((x.map (·.2)).contains y.2.2)).length+x.length≤E.length) [] ⟨(fun _ h=>nomatch h),by have:=List.length_filter_le (fun y:AV × AV × Nat=>!((([]:List (PK × Nat)).map (·.2)).contains y.2.2)) ME;rw[List.length_nil];omega⟩ (Du 8 8) ?_ fun x hx=>?_))
 ·exact Bu.up rfl rfl (by simp) (Nat.le_refl _) (.inl rfl) (by show 8≤9;omega) ⟨Ad.yld (by omega),Ad.ptr (by omega),Ad.ptr (by omega),trivial⟩
   ⟨⟨by omega,_,rfl,.iter (by omega),.inr rfl⟩,⟨by omega,_,rfl,Ya 8,.inr rfl⟩,⟨by omega,_,rfl,.dfr,.inr rfl⟩,⟨by omega,_,rfl,.cells (.cons (Ad.closed Below.lit) .nil),.inr rfl⟩,⟨by omega,_,rfl,.cells (.cons (Ad.closed Below.lit) (.cons (Ad.closed Below.lit) .nil)),.inr rfl⟩,
    ⟨by omega,_,rfl,.cells (.cons (Ad.closed (Below.fn (fun _ h=>nomatch h) (fun _ h=>nomatch h))) .nil),.inr rfl⟩,⟨by omega,_,rfl,.cells (.cons (Ad.mp (by omega)) .nil),.inr rfl⟩,⟨by omega,_,rfl,.map hclosed,.inr rfl⟩,trivial⟩ (fun p hp=>by cases hp)
 obtain⟨hx,hmeas⟩:=hx
 have hxl:x.length≤E.length:=by omega
 obtain⟨S,hS⟩:∃ s,x.map (·.2)=s:=⟨_,rfl⟩
 have hend:(ME.filter fun y=>!(S.contains y.2.2))=[]→∀ p∈E,p∈x:=fun hend p hp=>by
  have hin:p.2∈S:=by
   have:=List.filter_eq_nil_iff.1 hend _ (hmemE p hp)
   simpa using this
  rw[←hS] at hin
  obtain⟨q,hq,hqp⟩:=List.mem_map.1 hin
  have h5:q∈E.filter (fun y=>Nat.beq y.2 p.2):=List.mem_filter.2 ⟨hx q hq,by show Nat.beq q.2 p.2=true;rw[hqp];exact Nat.beq_refl _⟩
  rw[Gn (g:=fun y:PK × Nat=>y.2) hb.2 hp,List.mem_singleton] at h5
  rw[←h5];exact hq
 have hnext:∀ p∈E,S.contains p.2=false→(ME.filter fun y=>!(((x++[p]).map (·.2)).contains y.2.2)).length<(ME.filter fun y=>!((x.map (·.2)).contains y.2.2)).length:=fun p hp hn=>by
  refine filter_lt (p:=(pkV p.1,AV.lit (.bool true),p.2)) (fun q h=>?_) (hmemE p hp) ?_ ?_
  ·simp at h ⊢;exact h.1
  ·show(!(x.map (·.2)).contains p.2)=true
   rw[hS,hn];rfl
  ·show(!((x++[p]).map (·.2)).contains p.2)=false
   simp
 have hinv:∀ p∈E,S.contains p.2=false→(∀ q∈x++[p],q∈E)∧(ME.filter fun y=>!(((x++[p]).map (·.2)).contains y.2.2)).length+(x++[p]).length≤E.length:=fun p hp hn=>by
  refine⟨fun q hq=>?_,?_⟩
  ·rcases List.mem_append.1 hq with hq|hq
   ·exact hx q hq
   ·rw[List.mem_singleton.1 hq];exact hp
  ·have:=hnext p hp hn
   rw[List.length_append,List.length_singleton];omega
 have hSx:∀ p:PK × Nat,(x++[p]).map (·.2)=S++[p.2]:=fun p=>by rw[List.map_append,hS];rfl
 have hxp:∀ p:PK × Nat,(x++[p]).length=x.length+1:=fun p=>by rw[List.length_append,List.length_singleton]
 have hsn:=kB val x
 rw[hS]
 cases hn:x.length with
 | zero =>
  obtain rfl:x=[]:=List.length_eq_zero_iff.1 hn
  have hS0:S=[]:=hS.symm
  refine SW.seq (SW.runN tok hO 0 (by cbv<;>rfl) (by trivial) ?_)
  refine Ac.lE (a:=.ptr 7 0) (by cbv<;>rfl) (by rfl) (by rfl) hborn (fun he=>?_) (fun y hy hny=>?_)
  ·refine Ac.run tok hO (by cbv<;>rfl) (by trivial) ?_
   refine SW.seq (SW.cond (t:=false) (by cbv<;>rfl) (SW.exit ?_))
   exact⟨_,_,rfl,rfl,hK [] _ rfl hxl hx (hend he)⟩
  ·obtain⟨p,hp,rfl⟩:=hes y hy
   have hfil:ME.filter (fun x=>Nat.beq x.2.2 p.2)=[(pkV p.1,.lit (.bool true),p.2)]:=Gn (g:=fun x:AV × AV × Nat=>x.2.2) (x:=(pkV p.1,.lit (.bool true),p.2)) (by rw[hmap];exact hb.2) hy
   have hof':=hof p hp
   have hnx:=hnext p hp hny
   rw[hS] at hnx
   have hin:=hinv p hp hny
   have hsn:=hsn p
   have hSx:=hSx p
   have hxp:=hxp p
   obtain⟨⟨⟨a,b⟩,hab⟩,born⟩:=p
   obtain⟨u,hu⟩:∃ u,val ⟨(a,b),hab⟩=u:=⟨_,rfl⟩
   simp only [hu] at hof' hsn
   obtain⟨S2,hS2⟩:∃ s,S++[born]=s:=⟨_,rfl⟩
   show Ac _ _ _ _ _ _ ⟨(7,.iter 0 cl (S++[born]) cl)::enH g ME cl nl3,9⟩
   rw[hS2]
   refine Ac.run tok hO (by cbv<;>rfl) (by trivial) ?_
   refine SW.seq (SW.cond (t:=true) (by cbv<;>rfl) (SW.skip ?_))
   refine SW.block ?_
   refine SW.seq (SW.runN tok hO 0 (by cbv<;>rfl) (by trivial) ?_)
   have hlast:S2.getLast?=some born:=by rw[←hS2];simp
   refine Ac.dS (a:=.ptr 7 0) (by cbv<;>rfl) (by rfl) (by rfl) hlast hborn2 hfil ?_
   refine Ac.run tok hO (by cbv<;>rfl) (by trivial) ?_
   refine SW.seq (SW.runN tok hO 2 (by cbv<;>rfl) (by trivial) ?_)
   refine Ac.apply (c:=.yld 6) (args:=[.agg [iV a,iV b]]) (by cbv<;>rfl) (jD g a b u hof' ME cl (.iter 0 cl S2 cl)) fun v st' hv=>?_
   obtain⟨rfl,rfl⟩:=hv
   refine Ac.run tok hO (by cbv<;>rfl) (by trivial) ?_
   refine SW.cond (t:=false) (by cbv<;>rfl) (SW.skip ?_)
   refine⟨[(⟨(a,b),hab⟩,born)],hnx,hin,Du 8 12,?_⟩
   have e1:([(⟨(a,b),hab⟩,born)]:List (PK × Nat)).map (·.2)=S2:=by rw[←hS2,hS0];rfl
   rw[e1]
   refine Bu.up rfl rfl (by simp) (Nat.le_refl _) (.inr (by omega)) (by show 8≤9;omega) ⟨Ad.yld (by omega),Ad.ptr (by omega),Ad.ptr (by omega),trivial⟩
    ⟨⟨by omega,_,rfl,.iter (by omega),.inr rfl⟩,⟨by omega,_,rfl,Ya 12,.inr rfl⟩,⟨by omega,_,rfl,.dfr,.inr rfl⟩,⟨by omega,_,rfl,.cells (.cons (Ad.sl (by omega)) .nil),.inr rfl⟩,⟨by omega,_,rfl,.cells (.cons (Ad.closed Below.lit) (.cons (Ad.closed Below.lit) .nil)),.inr rfl⟩,
     ⟨by omega,_,rfl,.cells (.cons (Ad.closed (Below.fn (fun _ h=>nomatch h) (fun _ h=>nomatch h))) .nil),.inr rfl⟩,⟨by omega,_,rfl,.cells (.cons (Ad.mp (by omega)) .nil),.inr rfl⟩,⟨by omega,_,rfl,.map hclosed,.inr rfl⟩,trivial⟩ (fun p hp=>?_)
   obtain rfl:=Dm hp
   exact⟨by omega,_,rfl,.cells (Ay.of_eq hsn (Az (fun _ _=>Below.lit) _)),.inl rfl⟩
 | succ m =>
  obtain⟨G,hG⟩:∃ G,G=flatG 1 (Bc (vsL val x)) (m+1):=⟨_,rfl⟩
  show SW _ _ _ _ _ ⟨(7,.iter 0 cl S cl)::enH g ME cl (.sl 8 0 (m+1) 1 false)++[(8,.cells none false (flatG 1 (Bc (vsL val x)) (m+1)))],9⟩
  rw[←hG]
  refine SW.seq (SW.runN tok hO 0 (by cbv<;>rfl) (by trivial) ?_)
  refine Ac.lE (a:=.ptr 7 0) (by cbv<;>rfl) (by rfl) (by rfl) hborn (fun he=>?_) (fun y hy hny=>?_)
  ·refine Ac.run tok hO (by cbv<;>rfl) (by trivial) ?_
   refine SW.seq (SW.cond (t:=false) (by cbv<;>rfl) (SW.exit ?_))
   have hk:=hK x (.iter 0 cl S cl) rfl hxl hx (hend he)
   rw[hn] at hk
   rw[hG]
   exact⟨_,_,rfl,rfl,hk⟩
  ·obtain⟨p,hp,rfl⟩:=hes y hy
   have hfil:ME.filter (fun x=>Nat.beq x.2.2 p.2)=[(pkV p.1,.lit (.bool true),p.2)]:=Gn (g:=fun x:AV × AV × Nat=>x.2.2) (x:=(pkV p.1,.lit (.bool true),p.2)) (by rw[hmap];exact hb.2) hy
   have hof':=hof p hp
   have hnx:=hnext p hp hny
   rw[hS] at hnx
   have hin:=hinv p hp hny
   have hsn:=hsn p
   have hSx:=hSx p
   have hxp:=hxp p
   rw[hn] at hsn hxp
   rw[←hG] at hsn
   obtain⟨⟨⟨a,b⟩,hab⟩,born⟩:=p
   obtain⟨u,hu⟩:∃ u,val ⟨(a,b),hab⟩=u:=⟨_,rfl⟩
   simp only [hu] at hof' hsn
   obtain⟨S2,hS2⟩:∃ s,S++[born]=s:=⟨_,rfl⟩
   show Ac _ _ _ _ _ _ ⟨(7,.iter 0 cl (S++[born]) cl)::enH g ME cl (.sl 8 0 (m+1) 1 false)++[(8,.cells none false G)],9⟩
   rw[hS2]
   refine Ac.run tok hO (by cbv<;>rfl) (by trivial) ?_
   refine SW.seq (SW.cond (t:=true) (by cbv<;>rfl) (SW.skip ?_))
   refine SW.block ?_
   refine SW.seq (SW.runN tok hO 0 (by cbv<;>rfl) (by trivial) ?_)
   have hlast:S2.getLast?=some born:=by rw[←hS2];simp
   refine Ac.dS (a:=.ptr 7 0) (by cbv<;>rfl) (by rfl) (by rfl) hlast hborn2 hfil ?_
   refine Ac.run tok hO (by cbv<;>rfl) (by trivial) ?_
   refine SW.seq (SW.runN tok hO 2 (by cbv<;>rfl) (by trivial) ?_)
   refine Ac.apply (c:=.yld 6) (args:=[.agg [iV a,iV b]]) (by cbv<;>rfl) (jC g a b u hof' ME cl S2 m (by omega) (vsL val x) G hG) fun v st' hv=>?_
   obtain⟨rfl,o8,rfl⟩:=hv
   obtain⟨G2,hG2⟩:∃ G2,G++[iV u]=G2:=⟨_,rfl⟩
   rw[hG2]
   refine Ac.run tok hO (by cbv<;>rfl) (by trivial) ?_
   refine SW.cond (t:=false) (by cbv<;>rfl) (SW.skip ?_)
   refine⟨x++[(⟨(a,b),hab⟩,born)],hnx,hin,Du 8 12,?_⟩
   rw[hSx,hS2,hxp]
   refine Bu.up rfl rfl (by simp) (Nat.le_refl _) (.inr (by omega)) (by show 8≤9;omega) ⟨Ad.yld (by omega),Ad.ptr (by omega),Ad.ptr (by omega),trivial⟩
    ⟨⟨by omega,_,rfl,.iter (by omega),.inr rfl⟩,⟨by omega,_,rfl,Ya 12,.inr rfl⟩,⟨by omega,_,rfl,.dfr,.inr rfl⟩,⟨by omega,_,rfl,.cells (.cons (Ad.sl (by omega)) .nil),.inr rfl⟩,⟨by omega,_,rfl,.cells (.cons (Ad.closed Below.lit) (.cons (Ad.closed Below.lit) .nil)),.inr rfl⟩,
     ⟨by omega,_,rfl,.cells (.cons (Ad.closed (Below.fn (fun _ h=>nomatch h) (fun _ h=>nomatch h))) .nil),.inr rfl⟩,⟨by omega,_,rfl,.cells (.cons (Ad.mp (by omega)) .nil),.inr rfl⟩,⟨by omega,_,rfl,.map hclosed,.inr rfl⟩,trivial⟩ (fun p hp=>?_)
   obtain rfl:=Dm hp
   exact⟨by omega,_,rfl,.cells (Ay.of_eq (hG2.symm.trans hsn) (Az (fun _ _=>Below.lit) _)),.inl rfl⟩
end Go.Fz
namespace Go.Fz
open Go.Proofs
set_option maxRecDepth 100000
noncomputable def findRF:Code→Option (Code × Code)
 | .rangeFunc _ _ a b=>some (a,b)
 | .seq a b=>match findRF a with
  | some r=>some r
  | none=>findRF b
 | .scope a=>findRF a
 | .block _ a=>findRF a
 | _=>none
noncomputable def fQ:Code × Code:=match findRF (bodyF Try.f31) with
 | some p=>p
 | none=>(.skip,.skip)
def leL:List (Nat × AV):=[(5,.ptr 2 0),(6,.ptr 3 0),(19,.fn (.func 101) [] [.ptr 4 0])]
noncomputable def leR:Cs:={ state:=.ready,pending:=none,tmps:=⟨33,getT leL⟩,params:=#[20],assign:=fQ.1,body:=fQ.2,dfid:=5}
noncomputable def dG:Cs:={ leR with state:=.done,pending:=some (.exit 0) }
def leH (d:Ah)(XO:AV)(ME:List (AV × AV × Nat))(cl:Nat)(r:Cs)(xs:AV):Hp :=
 [(6,.loop r),(5,.dfr),(4,.cells none false [iV (d.nc:Int)]),(3,.cells none false [xs]),(2,.cells none false [iV d.hand,iV d.flat,Dj d,Dx d,Eo d,XO,.mp 1]),(1,.map ME cl),(0,.cells none false (Ex d))]
def Ee (E:List (Mk × Nat))(l:List Nat):Bool:=E.any fun p=>Fp p.1 l.length (fun i=>((l.getD i 0:Nat):Int))
section
variable (d:Ah)(XO:AV)(hX:Below 0 XO)(E:List (Mk × Nat))(cl:Nat)(hb:Yk E cl)
theorem Ua {ρ:Nat→Nat}{n:Nat}{r:Cs}{xs:AV}(hX:Below 0 XO)(hxs:Below 0 xs)(hclosed:∀ x∈Bp mkV E,Below 0 x.1∧Below 0 x.2.1)(hr:Hc ρ n (.loop r) (.loop r))(h1:ρ 1=1)(hn:1<n) :
  ∀ p∈leH d XO (Bp mkV E) cl r xs,Hc ρ n p.2 p.2:=fun p hp=>by
 have hmp:Ad ρ n (.mp 1) (.mp 1):=by
  have:=Ad.mp (ρ:=ρ) (n:=n) (j:=1) hn
  rwa [h1] at this
 unfold leH at hp
 simp only [List.mem_cons,List.not_mem_nil,or_false] at hp
 rcases hp with rfl|rfl|rfl|rfl|rfl|rfl|rfl
 ·exact hr
 ·exact .dfr
 ·exact .cells (.cons (Ad.closed Below.lit) .nil)
 ·exact .cells (.cons (Ad.closed hxs) .nil)
 ·exact .cells (.cons (Ad.closed Below.lit) (.cons (Ad.closed Below.lit) (.cons (Ad.closed (Be d)) (.cons (Ad.closed (Bh d)) (.cons (Ad.closed (Ci d)) (.cons (Ad.closed hX) (.cons hmp .nil)))))))
 ·exact .map hclosed
 ·exact .cells (Ay.closed (Bo d))
theorem Xn {ρ:Nat→Nat}{n:Nat}{s:LoopState}{c:Option Code}(h2:ρ 2=2)(h3:ρ 3=3)(h4:ρ 4=4)(h5:ρ 5=5)(hn:5<n):Hc ρ n (.loop { leR with state:=s,pending:=c}) (.loop { leR with state:=s,pending:=c}):=by
 have hp:∀ j,j<n→ρ j=j→Ad ρ n (.ptr j 0) (.ptr j 0):=fun j hj e=>by
  have:=Ad.ptr (ρ:=ρ) (n:=n) (j:=j) (off:=0) hj
  rwa [e] at this
 exact .loop rfl rfl rfl rfl rfl (by show 5=ρ 5;rw[h5]) (by show 5<n;exact hn) rfl (Ad.getT (l:=leL) ⟨hp 2 (by omega) h2,hp 3 (by omega) h3,Ad.fn .nil (.cons (hp 4 (by omega) h4) .nil),trivial⟩)
include hX hb in
set_option maxHeartbeats 16000000 in
theorem iS (N:Nat)(fl:Nat→Int)(LQ:Bool)(hl:N<1000)(hQ1:(∀ p∈E,Fp p.1 N fl=false)→LQ=false)(hQ2:∀ p∈E,Fp p.1 N fl=true→LQ=true) :
  Bj Try.prog 6 [Ak N false fl] ⟨leH d XO (Bp mkV E) cl leR nl3,7⟩ (fun v st'=>∃ R n',st'=⟨R,n'⟩∧7≤n' ∧
   ((v=.lit (.bool true)∧LQ=false∧∀ id o,Hp.get (leH d XO (Bp mkV E) cl leR nl3) id=some o→R.get id=some o) ∨
    (v=.lit (.bool false)∧LQ=true∧∀ id o,Hp.get (leH d XO (Bp mkV E) cl dG (Ak N false fl)) id=some o→R.get id=some o))):=by
 obtain⟨O,hO⟩:∃ O:Ar,O=std:=⟨_,rfl⟩
 have hes:∀ x∈Bp mkV E,∃ p∈E,x=(mkV p.1,.lit (.bool true),p.2):=fun x hx=>by
  obtain⟨p,hp,rfl⟩:=List.mem_map.1 hx
  exact⟨p,hp,rfl⟩
 have hborn:((Bp mkV E).all (fun x=>Nat.blt x.2.2 cl)&&Nat.ble cl cl)=true:=by
  rw[Bool.and_eq_true]
  refine⟨List.all_eq_true.2 fun x hx=>?_,by rw[Nat.ble_eq];exact Nat.le_refl _⟩
  obtain⟨p,hp,rfl⟩:=hes x hx
  show Nat.ble _ _=true
  rw[Nat.ble_eq]
  exact hb.1 p hp
 have hmap:(Bp mkV E).map (fun x=>x.2.2)=E.map (·.2):=by simp[Bp,List.map_map,Function.comp_def]
 have hborn2:(Nat.beq cl cl&&Ej (Bp mkV E))=true:=by
  rw[Nat.beq_refl,Bool.true_and]
  unfold Ej
  rw[hmap]
  exact decide_eq_true hb.2
 have hclosed:=Gl E
 have hmemE:∀ p∈E,(mkV p.1,AV.lit (.bool true),p.2)∈Bp mkV E:=fun p hp=>List.mem_map.2 ⟨p,hp,rfl⟩
 have hwith:∀ b:Mk,Pure Try.prog 78 [mkV b,Ak N false fl] (.sb (Fp b N fl)):=fun b=>Yn b N false fl hl
 have hlb:Below 0 (Ak N false fl):=Ap _ _ _
 have hren:=fun(ρ:Nat→Nat)(n:Nat)(r:Cs)=>Ua (ρ:=ρ) (n:=n) (r:=r) (xs:=nl3) d XO E cl hX Below.lit hclosed
 obtain⟨ME,hME⟩:∃ m,Bp mkV E=m:=⟨_,rfl⟩
 rw[hME] at hes hborn hborn2 hmap hclosed hmemE hren ⊢
 refine Bj.Fg (r:=leR) rfl rfl ?_
 refine SW.run tok hO (by cbv<;>rfl) (by trivial) ?_
 refine⟨leR,rfl,rfl,SW.block ?_⟩
 obtain⟨RB,hRB⟩:∃ r,r=({ leR with state:=.busy}:Cs):=⟨_,rfl⟩
 have hRBr:∀ n,5<n→Hc (tabR []) n (.loop RB) (.loop RB):=fun n hn=>by rw[hRB];exact Xn (s:=.busy) (c:=none) rfl rfl rfl rfl hn
 rw[←hRB]
 refine SW.seq (SW.runN tok hO 2 (by cbv<;>rfl) (by trivial) ?_)
 refine Ac.range tok (kt:=145) (by cbv<;>rfl) (by kernel_rfl) (by rfl) ?_
 refine Ac.nil ?_
 have hobj:∀ (st1:St)(it1 it2:AObj),it1.fam=none→Hc (tabR []) 8 it2 it1→(∀ p∈((7,it1)::leH d XO ME cl RB nl3:Hp),st1.h.get p.1=some p.2)→Hl (fun p=>p.1<8∧∃ o1,st1.h.get (tabR [] p.1)=some o1∧Hc (tabR []) 8 p.2 o1∧o1.fam=none) ((7,it2)::leH d XO ME cl RB nl3):=fun st1 it1 it2 hf hr hg=>by
  have h2:=hren (tabR []) 8 RB (hRBr 8 (by omega)) rfl (by omega)
  refine⟨⟨by show 7<8;omega,it1,hg _ List.mem_cons_self,hr,hf⟩,?_⟩
  have h3:∀ p∈leH d XO ME cl RB nl3,p.1<8∧∃ o1,st1.h.get (tabR [] p.1)=some o1∧Hc (tabR []) 8 p.2 o1∧o1.fam=none:=fun p hp=>by
   refine⟨?_,p.2,hg p (List.mem_cons_of_mem _ hp),h2 p hp,?_⟩
   all_goals
    unfold leH at hp
    simp only [List.mem_cons,List.not_mem_nil,or_false] at hp
    rcases hp with rfl|rfl|rfl|rfl|rfl|rfl|rfl
   all_goals first|rfl|(show _<8;omega)
  exact⟨h3 _ (by simp[leH]),h3 _ (by simp[leH]),h3 _ (by simp[leH]),h3 _ (by simp[leH]),h3 _ (by simp[leH]),h3 _ (by simp[leH]),h3 _ (by simp[leH]),trivial⟩
 refine(SW.block (SW.Mo (fun _:List (Mk × Nat)=>⟨⟨33,getT [(6,.ptr 3 0),(7,Ak N false fl),(23,.ptr 7 0)]⟩,[]⟩) (fun x=>⟨(7,.iter 1 cl (x.map (·.2)) cl)::leH d XO ME cl RB nl3,8⟩)
  (fun x=>(ME.filter fun y=>!((x.map (·.2)).contains y.2.2)).length) (fun x=>∀ p∈x,p∈E∧Fp p.1 N fl=false) [] (fun _ h=>nomatch h) (tabR []) ?_ fun x hx=>?_))
 ·refine Bu.tab rfl rfl (by simp) (by rfl) (Nat.le_refl _) (by rfl) ⟨Ad.ptr (by omega),Ad.closed hlb,Ad.ptr (by omega),trivial⟩ (hobj _ _ _ rfl (.iter (by omega)) ?_)
  intro p hp
  unfold leH at hp
  simp only [List.mem_cons,List.not_mem_nil,or_false] at hp
  rcases hp with rfl|rfl|rfl|rfl|rfl|rfl|rfl|rfl<;>rfl
 obtain⟨S,hS⟩:∃ s,x.map (·.2)=s:=⟨_,rfl⟩
 rw[hS]
 refine SW.seq (SW.runN tok hO 0 (by cbv<;>rfl) (by trivial) ?_)
 refine Ac.lE (a:=.ptr 7 0) (by cbv<;>rfl) (by rfl) (by rfl) hborn (fun hend=>?_) (fun y hy hny=>?_)
 ·refine Ac.run tok hO (by cbv<;>rfl) (by trivial) ?_
  refine SW.seq (SW.cond (t:=false) (by cbv<;>rfl) (SW.exit ?_))
  refine⟨RB,rfl,_,_,rfl,(by show 7≤8;omega),.inl ⟨rfl,hQ1 fun p hp=>?_,fun id o ho=>?_⟩⟩
  ·have hin:p.2∈S:=by
    have:=List.filter_eq_nil_iff.1 hend _ (hmemE p hp)
    simpa using this
   rw[←hS] at hin
   obtain⟨q,hq,hqp⟩:=List.mem_map.1 hin
   have h5:q∈E.filter (fun y=>Nat.beq y.2 p.2):=List.mem_filter.2 ⟨(hx q hq).1,by show Nat.beq q.2 p.2=true;rw[hqp];exact Nat.beq_refl _⟩
   rw[Gn (g:=fun y:Mk × Nat=>y.2) hb.2 hp,List.mem_singleton] at h5
   rw[←h5]
   exact(hx q hq).2
  ·have hm:=Hp.As ho
   unfold leH at hm
   simp only [List.mem_cons,List.not_mem_nil,or_false,Prod.mk.injEq] at hm
   rcases hm with ⟨rfl,rfl⟩|⟨rfl,rfl⟩|⟨rfl,rfl⟩|⟨rfl,rfl⟩|⟨rfl,rfl⟩|⟨rfl,rfl⟩|⟨rfl,rfl⟩<;>first|rfl|(rw[hRB];rfl)
 ·obtain⟨p,hp,rfl⟩:=hes y hy
  have hw:=hwith p.1
  have hfil:ME.filter (fun x=>Nat.beq x.2.2 p.2)=[(mkV p.1,.lit (.bool true),p.2)]:=Gn (g:=fun x:AV × AV × Nat=>x.2.2) (x:=(mkV p.1,.lit (.bool true),p.2)) (by rw[hmap];exact hb.2) hy
  have hQ2p:=hQ2 p hp
  have hxp:∀ q∈x++[p],q∈E:=fun q hq=>by
   rcases List.mem_append.1 hq with hq|hq
   ·exact(hx q hq).1
   ·rw[List.mem_singleton.1 hq];exact hp
  have hxw:Fp p.1 N fl=false→∀ q∈x++[p],Fp q.1 N fl=false:=fun h q hq=>by
   rcases List.mem_append.1 hq with hq|hq
   ·exact(hx q hq).2
   ·rw[List.mem_singleton.1 hq];exact h
  have hnx:(ME.filter fun y=>!(((x++[p]).map (·.2)).contains y.2.2)).length<(ME.filter fun y=>!((x.map (·.2)).contains y.2.2)).length:=by
   refine filter_lt (p:=(mkV p.1,AV.lit (.bool true),p.2)) (fun q h=>?_) (hmemE p hp) ?_ ?_
   ·simp at h ⊢;exact h.1
   ·show(!(x.map (·.2)).contains p.2)=true
    have:S.contains p.2=false:=hny
    rw[hS,this];rfl
   ·show(!((x++[p]).map (·.2)).contains p.2)=false
    simp
  rw[hS] at hnx
  have hSx:(x++[p]).map (·.2)=S++[p.2]:=by rw[List.map_append,hS];rfl
  rw[hSx] at hnx
  generalize Fp p.1 N fl=W at hw hQ2p hxw
  obtain⟨⟨b0,b1,b2,b3,b4⟩,born⟩:=p
  obtain⟨S2,hS2⟩:∃ s,S++[born]=s:=⟨_,rfl⟩
  simp only [hS2] at hnx hSx
  show Ac _ _ _ _ _ _ ⟨(7,.iter 1 cl (S++[born]) cl)::leH d XO ME cl RB nl3,8⟩
  rw[hS2]
  refine Ac.run tok hO (by cbv<;>rfl) (by trivial) ?_
  refine SW.seq (SW.cond (t:=true) (by cbv<;>rfl) (SW.skip ?_))
  refine SW.block ?_
  refine SW.seq (SW.runN tok hO 0 (by cbv<;>rfl) (by trivial) ?_)
  have hlast:S2.getLast?=some born:=by rw[←hS2];simp
  refine Ac.dS (a:=.ptr 7 0) (by cbv<;>rfl) (by rfl) (by rfl) hlast hborn2 hfil ?_
  refine Ac.run tok hO (by cbv<;>rfl) (by trivial) ?_
  refine SW.seq (SW.runN tok hO 2 (by cbv<;>rfl) (by trivial) ?_)
  refine Ac.Al hw (by cbv<;>rfl) ?_
  refine Ac.run tok hO (by cbv<;>rfl) (by trivial) ?_
  refine SW.Bd (by cbv<;>rfl) (fun h3=>?_) (fun h3=>SW.skip ?_)
  ·have hW:W=true:=h3
   refine SW.Ab tok hO (by cbv<;>rfl) (by trivial) ?_
   refine SW.exit ?_
   refine⟨RB,rfl,_,_,rfl,(by show 7≤9;omega),.inr ⟨rfl,hQ2p hW,fun id o ho=>?_⟩⟩
   have hm:=Hp.As ho
   unfold leH at hm
   simp only [List.mem_cons,List.not_mem_nil,or_false,Prod.mk.injEq] at hm
   rcases hm with ⟨rfl,rfl⟩|⟨rfl,rfl⟩|⟨rfl,rfl⟩|⟨rfl,rfl⟩|⟨rfl,rfl⟩|⟨rfl,rfl⟩|⟨rfl,rfl⟩<;>first|rfl|(rw[hRB];rfl)
  ·have hW:W=false:=h3
   refine⟨x++[((b0,b1,b2,b3,b4),born)],?_,fun q hq=>⟨hxp q hq,hxw hW q hq⟩,tabR [],?_⟩
   ·rw[hSx];exact hnx
   ·rw[hSx]
    refine Bu.tab rfl rfl (by simp) (by rfl) (Nat.le_refl _) (by rfl) ⟨Ad.ptr (by omega),Ad.closed hlb,Ad.ptr (by omega),trivial⟩ (hobj _ _ _ rfl (.iter (by omega)) ?_)
    intro p hp
    unfold leH at hp
    simp only [List.mem_cons,List.not_mem_nil,or_false] at hp
    rcases hp with rfl|rfl|rfl|rfl|rfl|rfl|rfl|rfl<;>rfl
include hX hb in
theorem lP (l:List Nat)(hl:l.length<1000) :
  Bj Try.prog 6 [lsV l] ⟨leH d XO (Bp mkV E) cl leR nl3,7⟩ (fun v st'=>∃ R n',st'=⟨R,n'⟩∧7≤n' ∧
   ((v=.lit (.bool true)∧Ee E l=false∧∀ id o,Hp.get (leH d XO (Bp mkV E) cl leR nl3) id=some o→R.get id=some o) ∨
    (v=.lit (.bool false)∧Ee E l=true∧∀ id o,Hp.get (leH d XO (Bp mkV E) cl dG (lsV l)) id=some o→R.get id=some o))) :=
 iS d XO hX E cl hb l.length (fun i=>((l.getD i 0:Nat):Int)) (Ee E l) hl (fun h=>by
  unfold Ee
  rw[List.any_eq_false]
  exact fun p hp=>by rw[h p hp];simp) (fun p hp h=>List.any_eq_true.2 ⟨p,hp,h⟩)
end
end Go.Fz
namespace Go.Fz
open Go.Proofs
set_option maxRecDepth 100000
theorem Yj {α:Type}{Q:α→Prop}:∀ {l:List α},(∀ p∈l,Q p)→Hl Q l
 | [],_=>trivial
 | x::l,h=>⟨h x List.mem_cons_self,Yj fun p hp=>h p (List.mem_cons_of_mem _ hp)⟩
theorem Zd {many:Nat}:∀ (m:Nat)(p:List Nat)(s:Nat)(l:List Nat),l∈Pe many m p s→l.length=m+p.length
 | 0,p,s,l,h=>by rw[List.mem_singleton.1 h];omega
 | m+1,p,s,l,h=>by
  obtain⟨c,_,hc⟩:=List.mem_flatMap.1 h
  have:=Zd m _ _ _ hc
  rw[List.length_append,List.length_singleton] at this
  omega
theorem Zc {many:Nat}{l:List Nat}(h:l∈Im many):l.length≤many:=by
 obtain⟨m,hm,hl⟩:=List.mem_flatMap.1 h
 have:=Zd _ _ _ _ hl
 have:=List.mem_range.1 hm
 simp at *
 omega
section
variable (d:Ah)(XO:AV)(E:List (Mk × Nat))(cl:Nat)
def leK (seen:List (List Nat))(h:Hp)(n:Nat):Prop:=h=leH d XO (Bp mkV E) cl leR nl3∧53≤n∧∀ l∈seen,Ee E l=false
def leS (seen:List (List Nat))(l:List Nat)(h:Hp)(n:Nat):Prop:=h=leH d XO (Bp mkV E) cl dG (lsV l)∧53≤n∧(∀ l'∈seen,Ee E l'=false)∧Ee E l=true
theorem Hv {ME:List (AV × AV × Nat)}{r:Cs}{xs:AV}{p:Nat × AObj}(hp:p∈leH d XO ME cl r xs):p.1<7∧p.2.fam=none∧p.2.own=true∧Hp.get (leH d XO ME cl r xs) p.1=some p.2:=by
 unfold leH at hp
 simp only [List.mem_cons,List.not_mem_nil,or_false] at hp
 rcases hp with rfl|rfl|rfl|rfl|rfl|rfl|rfl
 all_goals exact⟨by show _<7;omega,rfl,rfl,rfl⟩
def sg7 (n2 i:Nat):Nat:=match Nat.blt i 7 with
 | true=>i
 | false=>n2+i
theorem Wy {n2 i:Nat}(h:i<7):sg7 n2 i=i:=by
 have:Nat.blt i 7=true:=by rw[Nat.blt_eq];exact h
 unfold sg7;rw[this]
theorem sD {n2 i:Nat}(h:¬ i<7):sg7 n2 i=n2+i:=by
 have:Nat.blt i 7=false:=by rw[←Bool.not_eq_true,Nat.blt_eq];exact h
 unfold sg7;rw[this]
theorem fP (hX:Below 0 XO){xs:AV}(hxs:Below 0 xs)(s:LoopState)(c:Option Code){R:Hp}{n n2:Nat}(hn:53≤n)(hg:∀ id o,Hp.get (leH d XO (Bp mkV E) cl { leR with state:=s,pending:=c} xs) id=some o→R.get id=some o) :
  My (sg7 n2) ⟨R,n2+n⟩ ⟨leH d XO (Bp mkV E) cl { leR with state:=s,pending:=c} xs,n⟩:=by
 refine My.of (fun _=>none) (fun i j f h=>by cases h) (fun p hp q hq h=>?_) (Yj fun p hp=>?_)
 ·rw[Wy (Hv _ _ _ hp).1,Wy (Hv _ _ _ hq).1] at h
  exact h
 ·obtain⟨k1,k2,k3,k4⟩:=Hv _ _ _ hp
  refine⟨by omega,p.2,?_,.base (Ua d XO E cl hX hxs (Gl E) (Xn (s:=s) (c:=c) rfl rfl rfl rfl (by omega)) rfl (by omega) p hp),k2⟩
  rw[Wy k1]
  exact hg _ _ k4
theorem pT (hX:Below 0 XO)(hb:Yk E cl)(l:List Nat)(hl:l.length<1000)(n:Nat)(hn:53≤n) :
  Bj Try.prog 6 [lsV l] ⟨leH d XO (Bp mkV E) cl leR nl3,n⟩ (fun v st'=>(v=.lit (.bool true)∧Ee E l=false∧st'=⟨leH d XO (Bp mkV E) cl leR nl3,n⟩)∨(v=.lit (.bool false)∧Ee E l=true∧st'=⟨leH d XO (Bp mkV E) cl dG (lsV l),n⟩)):=by
 refine Bj.canon (ρ:=fun i=>i) (st2:=⟨leH d XO (Bp mkV E) cl leR nl3,7⟩) rfl (by show 6<7;omega) (fun x hx=>by rw[List.mem_singleton.1 hx];exact Kn l) ?_ (lP d XO hX E cl hb l hl) fun v st2' hk=>?_
 ·refine My.of (fun _=>none) (fun i j f h=>by cases h) (fun p hp q hq h=>h) (Yj fun p hp=>?_)
  obtain⟨k1,k2,k3,k4⟩:=Hv _ _ _ hp
  exact⟨k1,p.2,k4,.base (Ua d XO E cl hX Below.lit (Gl E) (Xn (s:=leR.state) (c:=leR.pending) rfl rfl rfl rfl (by omega)) rfl (by omega) p hp),k2⟩
 ·obtain⟨R,n',rfl,hn',hk⟩:=hk
  have hσ:∀ id,id<n→(sg7 n' id=id∧(fun i:Nat=>i) id=id∧id<7)∨sg7 n' id=n'+id:=fun id _=>by
   by_cases h:id<7
   ·exact .inl ⟨Wy h,rfl,h⟩
   ·exact .inr (sD h)
  rcases hk with ⟨rfl,hq,hg⟩|⟨rfl,hq,hg⟩
  ·exact⟨⟨⟨leH d XO (Bp mkV E) cl leR nl3,n⟩,sg7 n',.inl ⟨rfl,hq,rfl⟩,Below.lit,Nat.le_refl _,fP d XO E cl hX Below.lit leR.state leR.pending hn hg,hσ⟩⟩
  ·exact⟨⟨⟨leH d XO (Bp mkV E) cl dG (lsV l),n⟩,sg7 n',.inr ⟨rfl,hq,rfl⟩,Below.lit,Nat.le_refl _,fP d XO E cl hX (Kn l) .done (some (.exit 0)) hn hg,hσ⟩⟩
theorem le_step (hX:Below 0 XO)(hb:Yk E cl):Xc (leK d XO E cl) (leS d XO E cl) (fun l=>l.length<1000) 6:=fun seen l h n R hK hok hR=>by
 obtain⟨rfl,hn,hs⟩:=hK
 have ha:Vf R ⟨leH d XO (Bp mkV E) cl leR nl3,n⟩:=⟨fun id o ho=>(hR _ (Hp.As ho)).2.2,fun id o ho=>by
  cases hg:Hp.get (leH d XO (Bp mkV E) cl leR nl3) id with
  | none=>rfl
  | some o' =>
   have h1:id<7:=(Hv _ _ _ (Hp.As hg)).1
   have h2:49≤id:=(hR _ (Hp.As ho)).1
   omega,fun i j oi oj hi hj ⟨f,_,k2⟩=>by
  have h2:oj.fam=none:=(Hv _ _ _ (Hp.As hj)).2.1
  rw[h2] at k2;cases k2⟩
 refine(Bj.frame ha (pT d XO E cl hX hb l hok n hn) fun v st' hk id o ho=>.inl ?_).mono fun v s hk=>?_
 ·rcases hk with ⟨_,_,rfl⟩|⟨_,_,rfl⟩<;>exact(Hv _ _ _ (Hp.As ho)).2.2.1
 ·obtain⟨st',hk,rfl⟩:=hk
  rcases hk with ⟨rfl,hq,rfl⟩|⟨rfl,hq,rfl⟩
  ·refine .inl ⟨rfl,_,n,Nat.le_refl _,rfl,rfl,hn,fun l' hl'=>?_⟩
   rcases List.mem_append.1 hl' with hl'|hl'
   ·exact hs l' hl'
   ·rw[List.mem_singleton.1 hl'];exact hq
  ·exact .inr ⟨rfl,_,n,Nat.le_refl _,rfl,rfl,hn,hs,hq⟩
end
end Go.Fz
namespace Go.Fz
open Go.Proofs
set_option maxRecDepth 100000
def leaveV (E:List (Mk × Nat))(many:Nat):AV:=match (Im many).find? (Ee E) with
 | some l=>lsV l
 | none=>nl3
theorem Xm (E:List (Mk × Nat))(many:Nat):Below 0 (leaveV E many):=by
 unfold leaveV;split
 ·exact Kn _
 ·exact Below.lit
set_option maxHeartbeats 16000000 in
theorem dF (d:Ah)(E:List (Mk × Nat))(cl:Nat)(l:List (Nat→Int))(hb:Yk E cl)(hnc:d.nc<100)
  (e1:Pure Try.prog 40 [Di d] (iV 0))(e2:Vd Try.prog 76 [Di d] (Sn d l) (Bp mkV E) cl) :
  Pure Try.prog 31 [Di d] (.tup [leaveV E d.nc,iV 0]):=by
 obtain⟨O,hO⟩:∃ O:Ar,O=std:=⟨_,rfl⟩
 refine Ae tok 3 Try.func31 uH rfl ⟨Ax d,trivial⟩ (Below.tup (Br.ok ⟨Xm _ _,Below.lit,trivial⟩)) ?_
 have hWW:Sn d l=fun k=>.agg [iV d.hand,iV d.flat,Dj d,Dx d,Eo d,outsI d l,.mp k]:=rfl
 rw[hWW] at e2
 have hXb:=Mi d l
 have hXO:outsI d l=nl3∨∃ L G,outsI d l=.isl L 8 false G:=by
  cases l with
  | nil=>exact .inl rfl
  | cons f l=>exact .inr ⟨_,_,rfl⟩
 generalize outsI d l=XO at e2 hXO hXb
 have hris:=gZ (K:=leK d XO E cl) (stop:=leS d XO E cl) (ok:=fun l=>l.length<1000) (mc:=4) (y:=6) (many:=d.nc) (by omega) hnc (fun s h n hk=>by
   obtain⟨rfl,hn,_⟩:=hk
   exact⟨hn,fun x hx=>by obtain⟨k1,k2,_⟩:=Hv _ _ _ hx;exact⟨by omega,k2⟩,none,false,rfl⟩)
  (fun s l h n hk=>by
   obtain⟨rfl,hn,_⟩:=hk
   exact⟨hn,fun x hx=>by have:=(Hv _ _ _ hx).1;omega⟩)
  (fun s h n n' hk hle=>by
   obtain⟨rfl,hn,hs⟩:=hk
   exact⟨rfl,by omega,hs⟩) (fun l hl=>by have:=Zc hl;show l.length<1000;omega) (le_step d XO E cl hXb hb) (leH d XO (Bp mkV E) cl leR nl3) 7 (by omega) ⟨rfl,by omega,fun _ h=>nomatch h⟩
 have hfinN:(∀ l∈Im d.nc,Ee E l=false)→leaveV E d.nc=nl3:=fun h=>by
  unfold leaveV
  rw[List.find?_eq_none.2 fun l hl=>by rw[h l hl];simp]
 have hfinS:∀ pre l post,Im d.nc=pre++l::post→(∀ l'∈pre,Ee E l'=false)→Ee E l=true→leaveV E d.nc=lsV l:=fun pre l post h1 h2 h3=>by
  unfold leaveV
  rw[h1,List.find?_append,List.find?_eq_none.2 fun l hl=>by rw[h2 l hl];simp,List.find?_cons,h3]
  rfl
 generalize leaveV E d.nc=LV at hfinN hfinS ⊢
 unfold leK leS at hris
 obtain⟨ME,hME⟩:∃ m,Bp mkV E=m:=⟨_,rfl⟩
 rw[hME] at e2 hris
 refine SW.Ab tok hO (by cbv<;>rfl) (by trivial) ?_
 refine SW.scope ?_
 refine SW.seq ?_
 refine SW.Ab tok hO (by cbv<;>rfl) (by trivial) ?_
 refine Ac.Al e1 (by cbv<;>rfl) ?_
 refine Ac.run tok hO (by cbv<;>rfl) (by trivial) ?_
 refine SW.Ab tok hO (by cbv<;>rfl) (by trivial) ?_
 refine SW.Bd (by cbv<;>rfl) (fun h1=>?_) (fun h1=>SW.skip ?_)
 ·exfalso
  subst hO;simp[std] at h1
 refine SW.seq ((show SW Try.prog none _ (lJ 33 [(1,.ptr 0 0),(5,.ptr 2 0)] ⟨[(2,.cells none false [iV d.hand,iV d.flat,Dj d,Dx d,Eo d,XO,.mp 1]),(1,.map ME cl),(0,.cells none false (Ex d))],3⟩) _ _ from ?_).mono fun e f st hm=>?_)
 ·rcases hXO with rfl|⟨L,G,rfl⟩
  ·refine SW.runN tok hO 1 (by cbv<;>rfl) (by trivial) ?_
   refine Ac.Ep e2.ent (e2.call _) (by cbv<;>rfl) fun v st' hk=>?_
   obtain⟨rfl,rfl⟩:=hk
   refine Ac.run tok hO (by cbv<;>rfl) (by trivial) ?_
   exact⟨rfl,_,rfl,⟨rfl,rfl,trivial⟩,rfl⟩
  ·refine SW.runN tok hO 1 (by cbv<;>rfl) (by trivial) ?_
   refine Ac.Ep e2.ent (e2.call _) (by cbv<;>rfl) fun v st' hk=>?_
   obtain⟨rfl,rfl⟩:=hk
   refine Ac.run tok hO (by cbv<;>rfl) (by trivial) ?_
   exact⟨rfl,_,rfl,⟨rfl,rfl,trivial⟩,rfl⟩
 obtain⟨rfl,g,rfl,⟨g1,g5,_⟩,rfl⟩:=hm
 simp only at g1 g5
 rw[←Am g1,←Am g5]
 clear e2 hXO
 show SW _ _ _ _ _ _
 refine SW.Ab tok hO (by cbv<;>rfl) (by trivial) ?_
 refine SW.seq (SW.label ?_)
 refine SW.seq ?_
 refine SW.Ab tok hO (by cbv<;>rfl) (by trivial) ?_
 refine Ac.Ep tR (kT (many:=d.nc) _ _) (by cbv<;>rfl) fun v st' hk=>?_
 obtain⟨rfl,rfl⟩:=hk
 refine Ac.run tok hO (by cbv<;>rfl) (by trivial) ?_
 refine SW.block ?_
 refine SW.pre (f2:=⟨⟨33,getT leL⟩,[]⟩) (st2:=⟨[(4,.cells none false [iV (d.nc:Int)]),(3,.cells none false [nl3]),(2,.cells none false [iV d.hand,iV d.flat,Dj d,Dx d,Eo d,XO,.mp 1]),(1,.map ME cl),(0,.cells none false (Ex d))],5⟩) ?_ ?_
 ·exact Cw.by rfl rfl (fun _ h=>nomatch h) (Nat.le_refl _) (Nat.le_refl _) ⟨⟨rfl,.inl rfl⟩,⟨rfl,.inl rfl⟩,⟨rfl,.inl rfl⟩,trivial⟩ ⟨⟨rfl,by show _<5;omega,.inl rfl⟩,⟨rfl,by show _<5;omega,.inl rfl⟩,⟨rfl,by show _<5;omega,.inl rfl⟩,⟨rfl,by show _<5;omega,.inl rfl⟩,⟨rfl,by show _<5;omega,.inl rfl⟩,trivial⟩
 refine SW.rangeFunc (gf:=101) (first:=[]) (caps:=[.ptr 4 0]) (by rfl) nO ?_
 refine At.mono (show At Try.prog 101 [.yld 6,.ptr 4 0] ⟨leH d XO ME cl leR nl3,7⟩ _ from hris) fun v st' hk=>?_
 obtain⟨h,n,rfl,hk|⟨pre,l,post,hE,hk⟩⟩:=hk
 ·obtain⟨rfl,hn,hseen⟩:=hk
  refine⟨leR,rfl,(fun h=>by simp[leR] at h),?_⟩
  rw[hfinN hseen]
  show SW _ _ _ _ _ _
  refine SW.Ab tok hO (by cbv<;>rfl) (by trivial) ?_
  exact SW.ret ⟨_,_,rfl,rfl,Eqv.of rfl⟩
 ·obtain⟨rfl,hn,hpre,hl⟩:=hk
  refine⟨dG,rfl,(fun h=>by simp[dG,leR] at h),?_⟩
  rw[hfinS pre l post hE hpre hl]
  obtain⟨N,fl,hlv⟩:∃ N fl,lsV l=Ak N false fl:=⟨_,_,rfl⟩
  rw[hlv]
  refine SW.exit ?_
  show SW _ _ _ _ _ _
  refine SW.Ab tok hO (by cbv<;>rfl) (by trivial) ?_
  exact SW.ret ⟨_,_,rfl,rfl,Eqv.of rfl⟩
end Go.Fz
namespace Go.Fz
open Go.Proofs
set_option maxRecDepth 100000
set_option maxHeartbeats 16000000 in
theorem bM (g:FuncId)(val:PK→Int)(E:List (PK × Nat))(cl:Nat)(hb:Ve E cl)(hE:E.length<100000)(hof:∀ p∈E,Pure Try.prog g [pkV p.1] (iV (val p.1)))(lo hi:Int)
  (hlo:∃ p∈E,val p.1=lo)(hlo':∀ p∈E,lo≤val p.1)(hhi:∃ p∈E,val p.1=hi)(hhi':∀ p∈E,val p.1≤hi) :
  At Try.prog 59 [.fn (.func 99) [] [.ptr 1 0],.fn (.func g) [] []] (roM (Bp pkV E) cl) (fun v st'=>st'.h.get 0=some (.map (Bp pkV E) cl)∧freeB st'.h Iu=true∧Eqv (frz st'.h Iu 3 v) (Fb lo hi)):=by
 obtain⟨O,hO⟩:∃ O:Ar,O=std:=⟨_,rfl⟩
 obtain⟨ME,hME⟩:∃ m,Bp pkV E=m:=⟨_,rfl⟩
 have hkeys:=sP g val E cl hb hE hof
 rw[hME] at hkeys ⊢
 refine Bb tok Try.func59 rfl ?_
 refine SW.Ab tok hO (by cbv<;>rfl) (by trivial) ?_
 refine SW.Ab tok hO (by cbv<;>rfl) (by trivial) ?_
 refine SW.seq ?_
 refine SW.Ab tok hO (by cbv<;>rfl) (by trivial) ?_
 refine SW.block ?_
 refine SW.pre (f2:=⟨⟨24,getT enL⟩,[]⟩) (st2:=⟨[(4,.cells none false [nl3]),(3,.cells none false [iV 0,iV 0]),(2,.cells none false [.fn (.func g) [] []]),(1,.cells none true [.mp 0]),(0,.map ME cl)],5⟩) ?_ ?_
 ·exact Cw.by rfl rfl (fun _ h=>nomatch h) (Nat.le_refl _) (Nat.le_refl _) ⟨⟨rfl,.inl rfl⟩,⟨rfl,.inl rfl⟩,⟨rfl,.inl rfl⟩,⟨rfl,.inl rfl⟩,trivial⟩ ⟨⟨rfl,by show _<5;omega,.inl rfl⟩,⟨rfl,by show _<5;omega,.inl rfl⟩,⟨rfl,by show _<5;omega,.inl rfl⟩,⟨rfl,by show _<5;omega,.inl rfl⟩,⟨rfl,by show _<5;omega,.inl rfl⟩,trivial⟩
 refine SW.rangeFunc (gf:=99) (first:=[]) (caps:=[.ptr 1 0]) (by rfl) qB ?_
 refine(show At Try.prog 99 [.yld 6,.ptr 1 0] ⟨enH g ME cl nl3,7⟩ _ from hkeys _ fun x it hit hxl hx hcov=>?_)
 refine⟨enR,rfl,(fun h=>by simp[enR] at h),?_⟩
 have hne:x.length≠0:=fun h=>by
  obtain⟨p,hp,_⟩:=hlo
  have:=hcov p hp
  rw[List.length_eq_zero_iff.1 h] at this
  cases this
 have hlen:x.length<100000:=by omega
 have hmem:∀ i,i<x.length→∃ p∈E,vsL val x i=val p.1:=fun i hi=>⟨x[i],hx _ (List.getElem_mem hi),by unfold vsL;simp[hi]⟩
 have hcv:∀ p∈E,∃ i,i<x.length∧vsL val x i=val p.1:=fun p hp=>by
  obtain⟨i,hi,he⟩:=List.getElem_of_mem (hcov p hp)
  exact⟨i,hi,by unfold vsL;simp[hi,he]⟩
 generalize vsL val x=V at hmem hcv ⊢
 generalize x.length=N at hne hlen hmem hcv ⊢
 obtain⟨m,rfl⟩:∃ m,N=m+1:=⟨N-1,by omega⟩
 obtain⟨G,hG⟩:∃ G,G=flatG 1 (Bc V) (m+1):=⟨_,rfl⟩
 show SW Try.prog none _ _ ⟨⟨24,getT enL⟩,[5]⟩ ⟨(7,it)::(6,.loop { enR with state:=.exhausted})::(5,.dfr)::(4,.cells none false [.sl 8 0 (m+1) 1 false])::(3,.cells none false [iV 0,iV 0])::(2,.cells none false [.fn (.func g) [] []])::(1,.cells none true [.mp 0])::(0,.map ME cl)::[(8,.cells none false (flatG 1 (Bc V) (m+1)))],9⟩
 rw[←hG]
 refine SW.pre (f2:=⟨⟨24,getT [(4,.ptr 3 0),(5,.ptr 4 0)]⟩,[5]⟩) (st2:=⟨[(8,.cells none false G),(5,.dfr),(4,.cells none false [.sl 8 0 (m+1) 1 false]),(3,.cells none false [iV 0,iV 0]),(1,.cells none true [.mp 0]),(0,.map ME cl)],9⟩) ?_ ?_
 ·exact Cw.by rfl rfl (by simp) (Nat.le_refl _) (Nat.le_refl _) ⟨⟨rfl,.inl rfl⟩,⟨rfl,.inl rfl⟩,trivial⟩ ⟨⟨rfl,by show _<9;omega,.inl rfl⟩,⟨rfl,by show _<9;omega,.inl rfl⟩,⟨rfl,by show _<9;omega,.inl rfl⟩,⟨rfl,by show _<9;omega,.inl rfl⟩,⟨rfl,by show _<9;omega,.inl rfl⟩,⟨rfl,by show _<9;omega,.inl rfl⟩,trivial⟩
 refine SW.Hx (fun j=>Nat.beq j 8) 3 (by rfl) ?_
 obtain⟨NN,hNN⟩:∃ NN,NN=m+1:=⟨_,rfl⟩
 refine SW.wL (f2:=⟨⟨24,getT [(4,.ptr 3 0),(5,.ptr 4 0)]⟩,[5]⟩) (st2:=⟨[(5,.dfr),(4,.cells none false [Ak NN false V]),(3,.cells none false [iV 0,iV 0]),(1,.cells none true [.mp 0]),(0,.map ME cl)]++[],9⟩) (ρ:=Du 9 9) ?_ ?_
 ·refine Bu.up rfl rfl (fun id h=>by rw[List.mem_singleton.1 h];show 5<9;omega) (Nat.le_refl _) (.inl rfl) (Nat.le_refl _) ⟨Ad.ptr (by omega),Ad.ptr (by omega),trivial⟩
   ⟨⟨by omega,_,rfl,.dfr,.inr rfl⟩,⟨by omega,_,rfl,.cells (.cons (Ad.eqv (Ad.closed (Ap _ _ _)) ?_) .nil),.inr rfl⟩,⟨by omega,_,rfl,.cells (.cons (Ad.closed Below.lit) (.cons (Ad.closed Below.lit) .nil)),.inr rfl⟩,⟨by omega,_,rfl,.cells (.cons (Ad.mp (by omega)) .nil),.inr rfl⟩,⟨by omega,_,rfl,.map (by rw[←hME];exact fun x hx=>by obtain⟨p,_,rfl⟩:=List.mem_map.1 hx;exact⟨Kk _,Below.lit⟩),.inr rfl⟩,trivial⟩ (fun p hp=>by cases hp)
  rw[Dq (fm:=none) (G:=G) rfl rfl (by rw[hG,Aq];omega),hNN]
  exact Eqv.isl rfl fun i k hi hk=>Eqv.of (by rw[hG];exact Eb hi hk rfl)
 have hN0:(0:Int)<Int.ofNat NN:=by rw[hNN];exact Int.ofNat_lt.2 (Nat.succ_pos m)
 have hmin:leN (V 0) (fun i=>V (1+i)) m=lo:=by
  obtain⟨⟨h1,h2⟩,h3⟩:=Tz (V 0) (fun i=>V (1+i)) m
  obtain⟨p,hp,he⟩:=hlo
  obtain⟨i,hi,hVi⟩:=hcv p hp
  have hge:leN (V 0) (fun i=>V (1+i)) m≤lo:=by
   rw[←he,←hVi]
   cases i with
   | zero=>exact h1
   | succ i =>
    have h4:leN (V 0) (fun i=>V (1+i)) m≤V (1+i):=h2 i (by omega)
    rw[show 1+i=i+1 by omega] at h4;exact h4
  have hle:lo≤leN (V 0) (fun i=>V (1+i)) m:=by
   rcases h3 with h3|⟨j,hj,h3⟩
   ·obtain⟨p,hp,e⟩:=hmem 0 (by omega)
    rw[h3,e];exact hlo' p hp
   ·obtain⟨p,hp,e⟩:=hmem (1+j) (by omega)
    rw[h3]
    show lo≤V (1+j)
    rw[e];exact hlo' p hp
  omega
 have hmax:grN (V 0) (fun i=>V (i+1)) m=hi:=by
  obtain⟨⟨h1,h2⟩,h3⟩:=Ue (V 0) (fun i=>V (i+1)) m
  obtain⟨p,hp,he⟩:=hhi
  obtain⟨i,hi',hVi⟩:=hcv p hp
  have hge:hi≤grN (V 0) (fun i=>V (i+1)) m:=by
   rw[←he,←hVi]
   cases i with
   | zero=>exact h1
   | succ i=>exact h2 i (by omega)
  have hle:grN (V 0) (fun i=>V (i+1)) m≤hi:=by
   rcases h3 with h3|⟨j,hj,h3⟩
   ·obtain⟨p,hp,e⟩:=hmem 0 (by omega)
    rw[h3,e];exact hhi' p hp
   ·obtain⟨p,hp,e⟩:=hmem (j+1) (by omega)
    rw[h3]
    show V (j+1)≤hi
    rw[e];exact hhi' p hp
  omega
 have c97:Pure Try.prog 97 [iV (V (O.nat 0)),.isl (O.sub NN (O.nat 1)) 1 false (fun i=>Bc V (O.add (O.nat 1) i))] (iV lo):=by
  subst hO
  show Pure Try.prog 97 [iV (V 0),Ak (NN-1) false (fun i=>V (1+i))] (iV lo)
  rw[hNN,Nat.add_sub_cancel,←hmin]
  exact aC (V 0) m false (fun i=>V (1+i)) (by omega)
 have c98:Pure Try.prog 98 [.isl NN 1 false (Bc V)] (iV hi):=by
  have:=Rh NN false V (by omega) (by omega)
  rw[hNN,Nat.add_sub_cancel,hmax,←hNN] at this
  exact this
 refine SW.Bv tok mixed hO (by rfl) (by cbv<;>rfl) ?_ ?_
 ·have hn1:O.nat 1=1:=by subst hO;rfl
  refine⟨?_,Nat.le_refl _,(by decide:(0:Int)≤1),Int.le_refl _,hN0⟩
  show O.nat 1≤NN
  rw[hn1];omega
 refine AnyE.Al c97 (by cbv<;>rfl) (by cbv<;>rfl) ?_
 refine AnyE.run tok hO (by rfl) (by cbv<;>rfl) (by trivial) ?_
 refine AnyE.Al c98 (by cbv<;>rfl) (by cbv<;>rfl) ?_
 refine AnyE.run tok hO (by rfl) (by cbv<;>rfl) (by trivial) ?_
 refine AnyE.eff tok hO (by cbv<;>rfl) (by cbv<;>rfl) (by trivial) ?_
 refine AnyE.done (by rfl) ?_
 exact SW.ret ⟨_,_,rfl,rfl,rfl,rfl,Eqv.of rfl⟩
theorem tC (g:FuncId)(val:PK→Int)(E:List (PK × Nat))(cl:Nat)(hb:Ve E cl)(hE:E.length<100000)(hof:∀ p∈E,Pure Try.prog g [pkV p.1] (iV (val p.1)))(lo hi:Int)
  (hlo:∃ p∈E,val p.1=lo)(hlo':∀ p∈E,lo≤val p.1)(hhi:∃ p∈E,val p.1=hi)(hhi':∀ p∈E,val p.1≤hi){st:St}{mid bid:Nat}{fm:Option Nat}{ro:Bool}
  (hm:st.h.get mid=some (.map (Bp pkV E) cl))(hc:st.h.get bid=some (.cells fm ro [.mp mid])) :
  At Try.prog 59 [.fn (.func 99) [] [.ptr bid 0],.fn (.func g) [] []] st (fun v st'=>v=Fb lo hi∧st'=st):=by
 refine nS (args2:=[.fn (.func 99) [] [.ptr 1 0],.fn (.func g) [] []]) hm hc (fun x hx=>by obtain⟨p,_,rfl⟩:=List.mem_map.1 hx;exact⟨Kk _,Below.lit⟩) (Below.agg (Br.ok ⟨Below.lit,Below.lit,trivial⟩)) (fun φ us h=>?_) (bM g val E cl hb hE hof lo hi hlo hlo' hhi hhi')
 cases h with
 | cons h1 h2 =>
  obtain⟨us1,vs1,rfl,k1,k2⟩:=h1.Gf
  cases h2 with
  | cons h3 h4 =>
   obtain⟨us2,vs2,rfl,k3,k4⟩:=h3.Gf
   cases h4
   cases k1;cases k3;cases k4
   cases k2 with
   | cons k5 k6 =>
    cases k6
    obtain⟨rfl,_⟩:=k5.Dn
    refine .cons (.fn _ .nil (.cons ?_ .nil)) (.cons (.fn _ .nil .nil) .nil)
    exact VR.ptr (φ:=⟨fun i=>if i=0 then φ.f mid else φ.f bid,2,φ.z⟩) 1 0 (by show 1<2;omega)
end Go.Fz
