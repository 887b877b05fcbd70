/- Own work of the verifier of watercress: EvKm. -/
import Derived.Test.YtpefamheopplnaaMc5
import Derived.Test.YtpefamheopplnaaMc7
set_option linter.unusedVariables false
set_option linter.unusedSimpArgs false
namespace Go.Ev
def smI (n:Int):Bool:=match n with
 | .ofNat m=>Nat.ble m 4611686018427387904
 | .negSucc m=>Nat.ble m 4611686018427387904
def shp1 (s a:AV):Bool:=match a with
 | .lit (.int .i64 n)=>(match s with
  | .lit (.int .i64 m)=>smI m&&smI n
  | _=>false)
 | .lit (.bool _)=>(match s with
  | .lit (.bool _)=>true
  | _=>false)
 | _=>false
def shpL:List AV→List AV→Bool
 | [],[]=>true
 | s::ss,a::as=>shp1 s a&&shpL ss as
 | _,_=>false
def shp (s a:AV):Bool:=match a with
 | .agg cs=>(match s with
  | .agg ss=>shpL ss cs
  | _=>false)
 | a=>shp1 s a
inductive Sh:Value→Value→Prop where
 | int {m n:Int}(h1:(Lit.int .i64 m).wf=true)(h2:(Lit.int .i64 n).wf=true):Sh (.int .i64 m) (.int .i64 n)
 | bool (a b:Bool):Sh (.bool a) (.bool b)
inductive ShL:List Value→List Value→Prop where
 | nil:ShL [] []
 | cons {a b:Value}{r s:List Value}(h:Sh a b)(t:ShL r s):ShL (a::r) (b::s)
theorem wU:IntKind.min .i64=-9223372036854775808:=by decide
theorem wV:IntKind.max .i64=9223372036854775807:=by decide
theorem kQ {n:Int}(h:smI n=true):(Lit.int .i64 n).wf=true:=by
 unfold smI at h
 simp only [Lit.wf,wU,wV,Bool.and_eq_true,decide_eq_true_eq]
 split at h
 ·have:=Nat.le_of_ble_eq_true h
  simp only [Int.ofNat_eq_natCast]
  omega
 ·have:=Nat.le_of_ble_eq_true h
  omega
theorem eQ {s a:AV}(h:shp1 s a=true):∃ u v,litK s=some u∧litK a=some v∧Sh u v:=by
 unfold shp1 at h
 split at h
 ·split at h
  ·simp only [Bool.and_eq_true] at h
   exact⟨_,_,rfl,rfl,.int (kQ h.1) (kQ h.2)⟩
  ·cases h
 ·split at h
  ·exact⟨_,_,rfl,rfl,.bool _ _⟩
  ·cases h
 ·cases h
theorem eP:∀ {ss as:List AV},shpL ss as=true→∃ us vs,valsK ss=some us∧valsK as=some vs∧ShL us vs
 | [],[],_=>⟨[],[],rfl,rfl,.nil⟩
 | s::ss,a::as,h=>by
  simp only [shpL,Bool.and_eq_true] at h
  obtain⟨u,v,h1,h2,h3⟩:=eQ h.1
  obtain⟨us,vs,k1,k2,k3⟩:=eP h.2
  exact⟨u::us,v::vs,by simp only [valsK,h1,k1],by simp only [valsK,h2,k2],.cons h3 k3⟩
 | [],_::_,h=>by cases h
 | _::_,[],h=>by cases h
theorem ShL.length {a b:List Value}(h:ShL a b):a.length=b.length:=by
 induction h with
 | nil=>rfl
 | cons _ _ ih=>simp[ih]
theorem ShL.drop {a b:List Value}(h:ShL a b)(n:Nat):ShL (a.drop n) (b.drop n):=by
 induction h generalizing n with
 | nil=>simp;exact .nil
 | cons h t ih =>
  cases n with
  | zero=>exact .cons h t
  | succ n=>exact ih n
theorem ShL.take {a b:List Value}(h:ShL a b)(n:Nat):ShL (a.take n) (b.take n):=by
 induction h generalizing n with
 | nil=>simp;exact .nil
 | cons h t ih =>
  cases n with
  | zero=>exact .nil
  | succ n=>exact .cons h (ih n)
theorem Hf {α β:Type}(f:α→Option β):∀ l:List α,(l.mapM f).isSome=l.all fun x=>(f x).isSome
 | []=>rfl
 | a::l=>by
  rw[List.mapM_cons,List.all_cons,←Hf f l]
  cases f a with
  | none=>rfl
  | some y=>cases l.mapM f<;>rfl
theorem Gm {α β:Type}(f:α→β)(o:Option α):(o.map f).isSome=o.isSome:=by cases o<;>rfl
theorem On (P:Program):∀ (d:Nat)(t:TypeId){a b:List Value},ShL a b→(P.keyLits d t a).isSome=(P.keyLits d t b).isSome
 | 0,t,a,b,h=>rfl
 | d+1,t,a,b,h=>by
  have ih:=On P d
  have hl:=h.length
  unfold Program.keyLits
  cases hu:P.underlying t with
  | none=>rfl
  | some td =>
   cases td with
   | array n e =>
    simp only
    rw[hl]
    split
    ·rw[Gm,Gm,Hf,Hf]
     congr 1
     funext i
     exact ih e ((h.drop _).take _)
    ·rfl
   | struct fs =>
    simp only
    rw[hl]
    split
    ·rw[Gm,Gm,Hf,Hf]
     congr 1
     funext f
     exact ih f.type ((h.drop _).take _)
    ·rfl
   | bool =>
    cases h with
    | nil=>rfl
    | cons h t =>
     cases t with
     | nil=>cases h<;>rfl
     | cons h2 t2=>cases h<;>rfl
   | int q =>
    cases h with
    | nil=>rfl
    | cons h t =>
     cases t with
     | nil =>
      cases h with
      | int h1 h2 =>
       simp only
       by_cases hq:IntKind.i64=q
       ·subst hq;simp[h1,h2]
       ·simp[hq]
      | bool=>rfl
     | cons h2 t2=>cases h<;>rfl
   | string =>
    cases h with
    | nil=>rfl
    | cons h t =>
     cases t with
     | nil=>cases h<;>rfl
     | cons h2 t2=>cases h<;>rfl
   | _=>cases h with
    | nil=>rfl
    | cons h t =>
     cases t with
     | nil=>cases h<;>rfl
     | cons h2 t2=>cases h<;>rfl
theorem iQ (P:Program)(k:TypeId){u v:Value}(h:Sh u v):(mapKey P k u).isSome=(mapKey P k v).isSome:=by
 unfold mapKey
 cases P.underlying k with
 | none=>rfl
 | some td =>
  cases h with
  | int h1 h2 =>
   cases td with
   | int q =>
    simp only
    by_cases hq:IntKind.i64=q
    ·subst hq;simp[h1,h2]
    ·simp[hq]
   | _=>rfl
  | bool=>cases td<;>rfl
theorem lU (P:Program)(k:TypeId){u v:Value}(h:Sh u v):(keyOf P k u).isSome=true→(keyOf P k v).isSome=true:=by
 unfold keyOf
 split
 ·rename_i n e hu
  intro hs
  exfalso
  have hf:u.formed P k=false:=by cases h<;>simp[Value.formed,hu]
  rw[hf] at hs;simp at hs
 ·rename_i fs hu
  intro hs
  exfalso
  have hf:u.formed P k=false:=by cases h<;>simp[Value.formed,hu]
  rw[hf] at hs;simp at hs
 ·intro hs;rw[←iQ P k h];exact hs
theorem iW (P:Program)(k:TypeId){us vs:List Value}(h:ShL us vs):(keyOf P k (.agg us.toArray)).isSome=true→(keyOf P k (.agg vs.toArray)).isSome=true:=by
 have hl:=h.length
 unfold keyOf
 split
 ·rename_i n e hu
  have hf:Value.formed P k (.agg us.toArray)=Value.formed P k (.agg vs.toArray):=by simp[Value.formed,hu,hl]
  rw[hf]
  split
  ·intro hs
   rw[Gm] at hs ⊢
   simp only [Value.cells] at hs ⊢
   rw[←On P _ k h];exact hs
  ·intro hs;exact hs
 ·rename_i fs hu
  have hf:Value.formed P k (.agg us.toArray)=Value.formed P k (.agg vs.toArray):=by simp[Value.formed,hu,hl]
  rw[hf]
  split
  ·intro hs
   rw[Gm] at hs ⊢
   simp only [Value.cells] at hs ⊢
   rw[←On P _ k h];exact hs
  ·intro hs;exact hs
 ·rename_i h1 h2
  intro hs
  exfalso
  unfold mapKey at hs
  split at hs<;>simp_all
theorem lV (P:Program)(k:TypeId){s a:AV}(hs:keyB P k s=true)(h:shp s a=true):keyB P k a=true:=by
 unfold shp at h
 split at h
 ·rename_i cs
  split at h
  ·rename_i ss
   obtain⟨us,vs,h1,h2,h3⟩:=eP h
   unfold keyB at hs ⊢
   simp only [valK,h1,h2] at hs ⊢
   exact iW P k h3 hs
  ·cases h
 ·rename_i hna
  obtain⟨u,v,h1,h2,h3⟩:=eQ h
  have hva:valK a=some v:=by
   unfold valK
   split
   ·rename_i cs;exact absurd rfl (hna cs)
   ·exact h2
  have hsa:valK s=some u:=by
   unfold valK
   split
   ·cases h1
   ·exact h1
  unfold keyB at hs ⊢
  rw[hsa] at hs
  rw[hva]
  exact lU P k h3 hs
def gJ (P:Program)(S:TypeId→Option AV):Prop:=∀ k s,S k=some s→keyB P k s=true
variable (P:Program) in
def keyB3 (S:TypeId→Option AV)(k:TypeId)(a:AV):Bool:=match S k with
 | some s=>match shp s a with
  | true=>true
  | false=>keyB P k a
 | none=>keyB P k a
theorem lW {P:Program}{S:TypeId→Option AV}(hS:gJ P S)(k:TypeId)(a:AV):keyB3 P S k a=keyB P k a:=by
 unfold keyB3
 split
 ·rename_i s hs
  split
  ·rename_i h;exact(lV P k (hS k s hs) h).symm
  ·rfl
 ·rfl
noncomputable def es3 (st:St)(a:AV):Option (Nat × List (AV × AV × Nat) × Nat):=match a with
 | .mp id=>match Bw st.h id with
  | some (.map es clock)=>some (id,es,clock)
  | _=>none
 | _=>none
theorem mN (st:St)(a:AV):es3 st a=esOf st a:=by
 unfold es3 esOf
 cases a with
 | mp id =>
  simp only [Jk]
  cases st.h.get id with
  | none=>rfl
  | some o=>cases o<;>rfl
 | _=>rfl
def eqI (a b:Int):Bool:=match a with
 | .ofNat m=>(match b with
  | .ofNat n=>Nat.beq m n
  | .negSucc _=>false)
 | .negSucc m=>(match b with
  | .ofNat _=>false
  | .negSucc n=>Nat.beq m n)
theorem qA (a b:Int):eqI a b=true↔a=b:=by
 cases a<;>cases b<;>simp[eqI]<;>omega
theorem iR (m n:Int):litEq (.int .i64 m) (.int .i64 n)=eqI m n:=by
 rw[Bool.eq_iff_iff,qA]
 exact⟨fun h=>by have:=aA h;injection this,fun h=>by subst h;simp[litEq]⟩
def eq1 (a b:AV):Bool:=match a with
 | .lit (.int .i64 m)=>(match b with
  | .lit (.int .i64 n)=>eqI m n
  | _=>avEq a b)
 | _=>avEq a b
theorem mP (a b:AV):eq1 a b=avEq a b:=by
 unfold eq1
 split
 ·split
  ·rw[avEq,iR]
  ·rfl
 ·rfl
noncomputable def eqL (as:List AV):List AV→Bool:=@List.rec AV (fun _=>List AV→Bool) (fun bs=>match bs with
 | []=>true
 | _::_=>false) (fun a _ ih bs=>match bs with
 | []=>false
 | b::s=>@Bool.rec (fun _=>Bool) false (ih s) (eq1 a b)) as
theorem mO:∀ as bs:List AV,eqL as bs=avsEq as bs
 | [],[]=>by simp[eqL,avsEq]
 | [],_::_=>by simp[eqL,avsEq]
 | a::r,[]=>by simp[eqL,avsEq]
 | a::r,b::s=>by
  show @Bool.rec (fun _=>Bool) false (eqL r s) (eq1 a b)=_
  rw[mO r s,mP,avsEq]
  cases avEq a b<;>rfl
noncomputable def eq3 (a b:AV):Bool:=match a with
 | .agg as=>(match b with
  | .agg bs=>eqL as bs
  | _=>avEq a b)
 | _=>eq1 a b
theorem tA (a b:AV):eq3 a b=avEq a b:=by
 unfold eq3
 split
 ·split
  ·rw[mO,avEq]
  ·rfl
 ·exact mP a b
noncomputable def mA (k:AV)(l:List (AV × AV × Nat)):Nat→List Nat:=@List.rec (AV × AV × Nat) (fun _=>Nat→List Nat) (fun _=>[]) (fun x _ ih i=>@Bool.rec (fun _=>List Nat) (ih (i+1)) (i::ih (i+1)) (eq3 x.1 k)) l
theorem Xp (k:AV):∀ (l:List (AV × AV × Nat))(i:Nat),mA k l i=idxs k i l
 | [],i=>rfl
 | x::r,i=>by
  show @Bool.rec (fun _=>List Nat) (mA k r (i+1)) (i::mA k r (i+1)) (eq3 x.1 k)=_
  rw[tA,Xp k r,idxs]
  cases avEq x.1 k<;>rfl
section
variable (P:Program)(T:Ti)(KT:List TypeId)(S:TypeId→Option AV)(Z:TypeId→Option Value)
noncomputable def fR (kt:TypeId)(k:AV)(es:List (AV × AV × Nat)):Bool:=@Bool.rec (fun _=>Bool) false (Vn (fun x=>keyB3 P S kt x.1) es) (KT.contains kt&&keyB3 P S kt k)
noncomputable def x3 (st:St)(ρ:Operand→AV)(o:Oper):Option (List (AV × St)):=match o.op with
 | .lookup t m k c=>match mapKE T t with
  | some (kt,e)=>match Z e with
   | some z=>match es3 st (ρ m) with
    | some (_,es,_)=>match fR P KT S kt (ρ k) es with
     | true=>match mA (ρ k) es 0 with
      | []=>some [(okA c (ofV z) false,st)]
      | [j]=>match Xk es j with
       | some x=>some [(okA c x.2.1 true,st)]
       | none=>none
      | _=>none
     | false=>none
    | none=>none
   | none=>none
  | none=>none
 | .mapUpdate t m k v=>match mapD T t with
  | some kt=>match es3 st (ρ m) with
   | some (id,es,clock)=>match fR P KT S kt (ρ k) es with
    | true=>match mA (ρ k) es 0 with
     | []=>some [(Bx,⟨Vh st.h id (.map (appM es [(ρ k,ρ v,clock)]) (clock+1)),st.n⟩)]
     | [j]=>match Xk es j with
      | some x=>some [(Bx,⟨Vh st.h id (.map (Yz es j (ρ k,ρ v,x.2.2)) clock),st.n⟩)]
      | none=>none
     | _=>none
    | false=>none
   | none=>none
  | none=>none
 | _=>none
where appM (a b:List (AV × AV × Nat)):List (AV × AV × Nat):=@List.rec (AV × AV × Nat) (fun _=>List (AV × AV × Nat)) b (fun x _ ih=>x::ih) a
end
theorem rG (a b:List (AV × AV × Nat)):x3.appM a b=a++b:=by
 induction a with
 | nil=>rfl
 | cons x a ih=>show x::x3.appM a b=_;rw[ih];rfl
theorem aM {P:Program}{KT:List TypeId}{S:TypeId→Option AV}(hS:gJ P S)(kt:TypeId)(k:AV)(es:List (AV × AV × Nat)):fR P KT S kt k es=((KT.contains kt&&keyB P kt k)&&es.all fun x=>keyB P kt x.1):=by
 unfold fR
 rw[Yi,Ib]
 simp only [lW hS]
theorem wC {P:Program}{T:Ti}(hT:TOk P T){KT:List TypeId}{S:TypeId→Option AV}(hS:gJ P S)(hK:∀ k∈KT,Maps.Keyed P k){Z:TypeId→Option Value}(hZ:ZOk P Z):XOk P (x3 P T KT S Z):=by
 intro rd ops i f st o outs ho hw h
 unfold x3 at h
 split at h
 ·rename_i t m k c hx
  refine Yl hT hK hZ rd ops i f st o outs ho hw ?_
  unfold xLook
  rw[hx]
  simp only [mN,aM hS,Xp,Pn] at h
  split at h
  ·rename_i kt e hke
   simp only [hke]
   split at h
   ·rename_i z hz
    simp only [hz]
    split at h
    ·rename_i id es clock hes
     simp only [hes]
     split at h
     ·rename_i hc
      rw[if_pos hc]
      exact h
     ·cases h
    ·cases h
   ·cases h
  ·cases h
 ·rename_i t m k v hx
  refine eI hT hK rd ops i f st o outs ho hw ?_
  unfold xMap
  rw[hx]
  simp only [mN,aM hS,Xp,Pn,Pv,Sb,rG] at h
  split at h
  ·rename_i kt hke
   simp only [hke]
   split at h
   ·rename_i id es clock hes
    simp only [hes]
    split at h
    ·rename_i hc
     rw[if_pos hc]
     exact h
    ·cases h
   ·cases h
  ·cases h
 ·cases h
end Go.Ev
