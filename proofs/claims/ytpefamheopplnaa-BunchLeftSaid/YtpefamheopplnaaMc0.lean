/- Own work of the verifier of watercress: EvA. -/
import Derived.RangeFuncLeaves
import Derived.RangeFuncRecord
import Derived.OrdersHeld
import Derived.Laws.Sem
import Derived.Laws.World
import Derived.Laws.NewFold
set_option linter.unusedVariables false
set_option linter.unusedSimpArgs false
namespace Go.Ev
inductive AV where
 | lit (v:Value)
 | ptr (id off:Nat)
 | sl (id off len sz:Nat)(ex:Bool)
 | mp (id:Nat)
 | yld (id:Nat)
 | fn (f:Fn) (first captured:List AV)
 | agg (cs:List AV)
 | tup (vs:List AV)
 deriving Inhabited
structure Cs where
 state:LoopState
 pending:Option Code
 tmps:List AV
 params:Array Tmp
 assign:Code
 body:Code
 dfid:Nat
inductive AObj where
 | cells (fam:Option Nat)(ro:Bool)(cs:List AV)
 | loop (r:Cs)
 | dfr
 | map (es:List (AV × AV × Nat))(clock:Nat)
 | iter (mid since:Nat)(seen:List Nat)(last:Nat)
def AObj.own:AObj→Bool
 | .cells _ ro _=>!ro
 | _=>true
def AObj.fam:AObj→Option Nat
 | .cells f _ _=>f
 | _=>none
def Mz (a b:AObj):Prop:=∃ f,a.fam=some f∧b.fam=some f
abbrev Hp:=List (Nat × AObj)
def Hp.get:Hp→Nat→Option AObj
 | [],_=>none
 | (i,o)::r,id=>if i=id then some o else Hp.get r id
def Hp.set:Hp→Nat→AObj→Hp
 | [],_,_=>[]
 | (i,o)::r,id,o'=>if i=id then(i,o')::r else(i,o)::Hp.set r id o'
structure St where
 h:Hp
 n:Nat
structure Loc where
 b:Nat
 o:Nat
 n:Nat
structure Fi where
 f:Nat→Loc
 n:Nat
mutual
inductive VR (φ:Fi):AV→Value→Prop
 | lit (v:Value):VR φ (.lit v) v
 | ptr (id off:Nat)(h:id<φ.n):VR φ (.ptr id off) (.pointer (some ⟨(φ.f id).b,(φ.f id).o+off,none⟩))
 | sl (id off len sz:Nat)(ex:Bool)(cap:Nat)(h:id<φ.n)(hc:len≤cap)(he:ex=true→cap=len)(hs:(φ.f id).o+off+cap*sz≤(φ.f id).n) :
   VR φ (.sl id off len sz ex) (.slice (some ⟨(φ.f id).b,(φ.f id).o+off,none⟩) len cap)
 | mp (id:Nat)(h:id<φ.n):VR φ (.mp id) (.map (some (φ.f id).b))
 | yld (id:Nat)(h:id<φ.n):VR φ (.yld id) (.func (.yield (φ.f id).b) #[] #[])
 | fn (f:Fn){as bs:List AV}{us vs:List Value}(h1:VRL φ as us)(h2:VRL φ bs vs):VR φ (.fn f as bs) (.func f us.toArray vs.toArray)
 | agg {as:List AV}{us:List Value}(h:VRL φ as us):VR φ (.agg as) (.agg us.toArray)
 | tup {as:List AV}{us:List Value}(h:VRL φ as us):VR φ (.tup as) (.tuple us.toArray)
inductive VRL (φ:Fi):List AV→List Value→Prop
 | nil:VRL φ [] []
 | cons {a:AV}{u:Value}{as:List AV}{us:List Value}(h:VR φ a u)(t:VRL φ as us):VRL φ (a::as) (u::us)
end
structure Ext (φ φ':Fi):Prop where
 n:φ.n≤φ'.n
 f:∀ id,id<φ.n→φ'.f id=φ.f id
theorem Ext.refl (φ:Fi):Ext φ φ:=⟨Nat.le_refl _,fun _ _=>rfl⟩
theorem Ext.trans {a b c:Fi}(h:Ext a b)(k:Ext b c):Ext a c:=⟨Nat.le_trans h.n k.n,fun id hi=>(k.f id (Nat.lt_of_lt_of_le hi h.n)).trans (h.f id hi)⟩
mutual
theorem VR.mono {φ φ':Fi}(he:Ext φ φ'):{a:AV}→{v:Value}→VR φ a v→VR φ' a v
 | _,_,.lit v=>.lit v
 | _,_,.ptr id off h=>by
  have h1:=VR.ptr (φ:=φ') id off (Nat.lt_of_lt_of_le h he.n)
  rwa [he.f id h] at h1
 | _,_,.sl id off len sz ex cap h hc hx hs=>by
  have h1:=VR.sl (φ:=φ') id off len sz ex cap (Nat.lt_of_lt_of_le h he.n) hc hx (by rw[he.f id h];exact hs)
  rwa [he.f id h] at h1
 | _,_,.mp id h=>by
  have h1:=VR.mp (φ:=φ') id (Nat.lt_of_lt_of_le h he.n)
  rwa [he.f id h] at h1
 | _,_,.yld id h=>by
  have h1:=VR.yld (φ:=φ') id (Nat.lt_of_lt_of_le h he.n)
  rwa [he.f id h] at h1
 | _,_,.fn f h1 h2=>.fn f (VRL.mono he h1) (VRL.mono he h2)
 | _,_,.agg h=>.agg (VRL.mono he h)
 | _,_,.tup h=>.tup (VRL.mono he h)
theorem VRL.mono {φ φ':Fi}(he:Ext φ φ'):{as:List AV}→{us:List Value}→VRL φ as us→VRL φ' as us
 | _,_,.nil=>.nil
 | _,_,.cons h t=>.cons (VR.mono he h) (VRL.mono he t)
end
theorem VRL.length {φ:Fi}{as:List AV}{us:List Value}(h:VRL φ as us):as.length=us.length:=by
 induction as generalizing us with
 | nil=>cases h;rfl
 | cons a as ih=>cases h with|cons h t=>simp[ih t]
theorem VRL.get {φ:Fi}{as:List AV}{us:List Value}(h:VRL φ as us):∀ (i:Nat)(a:AV),as[i]?=some a→∃ u,us[i]?=some u∧VR φ a u:=by
 induction as generalizing us with
 | nil=>intro i a ha;simp at ha
 | cons x as ih =>
  cases h with
  | cons h t =>
   intro i a ha
   cases i with
   | zero=>simp at ha;subst ha;exact⟨_,rfl,h⟩
   | succ i=>simpa using ih t i a (by simpa using ha)
theorem VRL.It {φ:Fi}:∀ {as:List AV}{us:List Value},as.length=us.length→(∀ (i:Nat)(a:AV)(u:Value),as[i]?=some a→us[i]?=some u→VR φ a u)→VRL φ as us
 | [],[],_,_=>.nil
 | [],_::_,h,_=>by simp at h
 | _::_,[],h,_=>by simp at h
 | a::as,u::us,hl,h=>.cons (h 0 a u rfl rfl) (VRL.It (by simpa using hl) fun i a u ha hu=>h (i+1) a u (by simpa using ha) (by simpa using hu))
theorem VRL.append {φ:Fi}{as bs:List AV}{us vs:List Value}(h:VRL φ as us)(k:VRL φ bs vs):VRL φ (as++bs) (us++vs):=by
 induction as generalizing us with
 | nil=>cases h;exact k
 | cons a as ih=>cases h with|cons h t=>exact .cons h (ih t)
theorem VRL.drop {φ:Fi}{as:List AV}{us:List Value}(h:VRL φ as us)(n:Nat):VRL φ (as.drop n) (us.drop n):=by
 induction n generalizing as us with
 | zero=>exact h
 | succ n ih=>cases h with
  | nil=>exact .nil
  | cons h t=>exact ih t
theorem VRL.take {φ:Fi}{as:List AV}{us:List Value}(h:VRL φ as us)(n:Nat):VRL φ (as.take n) (us.take n):=by
 induction n generalizing as us with
 | zero=>exact .nil
 | succ n ih=>cases h with
  | nil=>exact .nil
  | cons h t=>exact .cons h (ih t)
theorem VRL.set {φ:Fi}{as:List AV}{us:List Value}{a:AV}{u:Value}(h:VRL φ as us)(i:Nat)(ha:VR φ a u):VRL φ (as.set i a) (us.set i u):=by
 induction i generalizing as us with
 | zero=>cases h with
  | nil=>exact .nil
  | cons h t=>exact .cons ha t
 | succ i ih=>cases h with
  | nil=>exact .nil
  | cons h t=>exact .cons h (ih t)
theorem VRL.replicate {φ:Fi}{a:AV}{u:Value}(n:Nat)(ha:VR φ a u):VRL φ (List.replicate n a) (List.replicate n u):=by
 induction n with
 | zero=>exact .nil
 | succ n ih=>exact .cons ha ih
def AV.cells:AV→List AV
 | .lit v=>v.cells.toList.map .lit
 | .agg cs=>cs
 | a=>[a]
theorem VRL.lits {φ:Fi}:∀ (us:List Value),VRL φ (us.map .lit) us
 | []=>.nil
 | u::us=>.cons (.lit u) (VRL.lits us)
theorem VR.cells {φ:Fi}{a:AV}{v:Value}(h:VR φ a v):VRL φ a.cells v.cells.toList:=by
 cases h with
 | lit v=>exact VRL.lits _
 | agg h=>simpa[AV.cells,Value.cells] using h
 | ptr id off h=>exact .cons (.ptr id off h) .nil
 | sl id off len sz ex cap h hc he hs=>exact .cons (.sl id off len sz ex cap h hc he hs) .nil
 | mp id h=>exact .cons (.mp id h) .nil
 | yld id h=>exact .cons (.yld id h) .nil
 | fn f h1 h2=>exact .cons (.fn f h1 h2) .nil
 | tup h=>exact .cons (.tup h) .nil
def AV.one:AV→Bool
 | .lit v=>v.oneCell'
 | .agg _ | .tup _=>false
 | _=>true
theorem VR.one {φ:Fi}{a:AV}{v:Value}(h:VR φ a v)(ha:a.one=true):v.oneCell'=true:=by
 cases h<;>simp_all [AV.one,Value.oneCell']
def Cx (φ:Fi)(w:World)(id:Nat):AObj→Prop
 | .cells _ ro cs=>(∀ (i:Nat)(a:AV),cs[i]?=some a→∃ v,w.cell? ⟨(φ.f id).b,(φ.f id).o+i,none⟩=some v∧VR φ a v) ∧
   (ro=false→∃ c t,w.heap[(φ.f id).b]?=some (.cells c t (0,0))∧c.size=(φ.f id).n∧(φ.f id).o+cs.length≤(φ.f id).n)
 | .loop r=>∃ L:Loop,w.heap[(φ.f id).b]?=some (.loop L)∧L.state=r.state∧L.pending=r.pending∧VRL φ r.tmps L.tmps.toList∧L.params=r.params∧L.assign=r.assign∧L.body=r.body∧r.dfid<φ.n∧L.defers=(φ.f r.dfid).b
 | .dfr=>w.heap[(φ.f id).b]?=some (.deferred (some []))
 | .map es clock=>∃ ces:Array MapEntry,w.heap[(φ.f id).b]?=some (.map ces clock)∧ces.size=es.length ∧
   ∀ (i:Nat)(x:AV × AV × Nat),es[i]?=some x→∃ e,ces[i]?=some e∧VR φ x.1 e.key∧VR φ x.2.1 e.val∧e.born=x.2.2
 | .iter mid since seen last=>w.heap[(φ.f id).b]?=some (.mapIter (some (φ.f mid).b) since seen.toArray last)∧(φ.f id).o=0∧mid<φ.n
structure Rel (φ:Fi)(st:St)(w:World):Prop where
 n:φ.n=st.n
 lt:∀ id o,st.h.get id=some o→id<st.n
 blk:∀ id o,st.h.get id=some o→(φ.f id).b<w.heap.size
 obj:∀ id o,st.h.get id=some o→Cx φ w id o
 sep:∀ i j oi oj,st.h.get i=some oi→st.h.get j=some oj→i≠j→oi.own=true →
  (φ.f i).b=(φ.f j).b→Mz oi oj∧oj.own=true∧(φ.f i).o=(φ.f j).o∧(φ.f i).n=(φ.f j).n
theorem Hp.Hw (h:Hp)(id:Nat)(o:AObj)(j:Nat):(h.set id o).get j=if j=id∧(h.get id).isSome then some o else h.get j:=by
 induction h with
 | nil=>simp[Hp.set,Hp.get]
 | cons p r ih =>
  obtain⟨i,x⟩:=p
  by_cases hi:i=id
  ·subst hi
   by_cases hj:j=i
   ·subst hj;simp[Hp.set,Hp.get]
   ·simp[Hp.set,Hp.get,hj,Ne.symm hj]
  ·by_cases hj:j=id
   ·subst hj;simp[Hp.set,Hp.get,hi,ih]
   ·by_cases hij:i=j
    ·subst hij;simp[Hp.set,Hp.get,hj]
    ·simp[Hp.set,Hp.get,hi,hij,ih,hj]
theorem Cx.same {φ φ':Fi}{w w':World}{id:Nat}{o:AObj}(he:Ext φ φ')(hid:id<φ.n)(hb:w'.heap[(φ.f id).b]?=w.heap[(φ.f id).b]?)(h:Cx φ w id o):Cx φ' w' id o:=by
 have hf:=he.f id hid
 cases o with
 | cells fam ro cs =>
  obtain⟨h1,h2⟩:=h
  refine⟨fun i a ha=>?_,fun hro=>?_⟩
  ·obtain⟨v,hv,hr⟩:=h1 i a ha
   refine⟨v,?_,hr.mono he⟩
   rw[hf]
   unfold World.cell? at hv ⊢
   simp only at hv ⊢
   rw[hb];exact hv
  ·rw[hf,hb];exact h2 hro
 | loop r =>
  obtain⟨L,h1,h2,h3,h4,h5,h6,h7,h8,h9⟩:=h
  exact⟨L,by rw[hf,hb];exact h1,h2,h3,h4.mono he,h5,h6,h7,Nat.lt_of_lt_of_le h8 he.n,by rw[he.f _ h8];exact h9⟩
 | dfr=>show _=_;rw[hf,hb];exact h
 | map es clock =>
  obtain⟨ces,h1,h2,h3⟩:=h
  refine⟨ces,by rw[hf,hb];exact h1,h2,fun i x hx=>?_⟩
  obtain⟨e,k1,k2,k3,k4⟩:=h3 i x hx
  exact⟨e,k1,k2.mono he,k3.mono he,k4⟩
 | iter mid since seen last =>
  obtain⟨h1,h2,h3⟩:=h
  exact⟨by rw[hf,hb,he.f _ h3];exact h1,by rw[hf];exact h2,Nat.lt_of_lt_of_le h3 he.n⟩
theorem Rel.of_heap {φ:Fi}{st:St}{w w':World}(hr:Rel φ st w)(h:w'.heap=w.heap):Rel φ st w' :=
 ⟨hr.n,hr.lt,fun id o ho=>by rw[h];exact hr.blk id o ho,fun id o ho=>(hr.obj id o ho).same (Ext.refl _) (by rw[hr.n];exact hr.lt id o ho) (by rw[h]),hr.sep⟩
def Fo (φ:Fi)(st:St)(k:Nat):Prop:=∃ id o,st.h.get id=some o∧o.own=true∧(φ.f id).b=k
structure Fr (φ:Fi)(st:St)(w:World)(φ':Fi)(st':St)(w':World):Prop where
 os:w'.os=w.os
 tape:w'.tape=w.tape
 output:w'.output=w.output
 size:w.heap.size≤w'.heap.size
 block:∀ k,k<w.heap.size→¬ Fo φ st k→w'.heap[k]?=w.heap[k]?
 own:∀ k,Fo φ' st' k→Fo φ st k∨w.heap.size≤k
theorem Fr.refl (φ:Fi)(st:St)(w:World):Fr φ st w φ st w:=⟨rfl,rfl,rfl,Nat.le_refl _,fun _ _ _=>rfl,fun _ h=>.inl h⟩
theorem Fr.trans {φ φ' φ'':Fi}{st st' st'':St}{w w' w'':World}(h:Fr φ st w φ' st' w')(k:Fr φ' st' w' φ'' st'' w''):Fr φ st w φ'' st'' w'' :=
 ⟨k.os.trans h.os,k.tape.trans h.tape,k.output.trans h.output,Nat.le_trans h.size k.size,
  fun i hi ho=>(k.block i (Nat.lt_of_lt_of_le hi h.size) (fun hn=>(h.own i hn).elim ho (fun hl=>by omega))).trans (h.block i hi ho),
  fun i hi=>(k.own i hi).elim (h.own i) (fun hl=>.inr (Nat.le_trans h.size hl))⟩
def Fi.push (φ:Fi)(l:Loc):Fi:=⟨fun i=>if i=φ.n then l else φ.f i,φ.n+1⟩
def St.push (st:St)(o:AObj):St:=⟨(st.n,o)::st.h,st.n+1⟩
theorem Fi.Aw (φ:Fi)(l:Loc):Ext φ (φ.push l):=⟨by simp[Fi.push],fun id hi=>by simp[Fi.push,Nat.ne_of_lt hi]⟩
theorem Fi.Ai (φ:Fi)(l:Loc):(φ.push l).f φ.n=l:=by simp[Fi.push]
theorem Fi.Js (φ:Fi)(l:Loc):(φ.push l).n=φ.n+1:=rfl
theorem St.Bf (st:St)(o:AObj)(j:Nat):(st.push o).h.get j=if st.n=j then some o else st.h.get j:=rfl
theorem Dg (w:World)(o:Obj)(k:Nat)(h:k<w.heap.size):(w.alloc o).heap[k]?=w.heap[k]?:=by
 show(w.heap.push o)[k]?=_
 rw[Array.getElem?_push,if_neg (by omega)]
theorem Bi (w:World)(o:Obj):(w.alloc o).heap[w.heap.size]?=some o:=by
 show(w.heap.push o)[w.heap.size]?=some o
 simp
theorem Dv (w:World)(o:Obj):(w.alloc o).heap.size=w.heap.size+1:=by
 show(w.heap.push o).size=_
 simp
theorem Rel.push {φ:Fi}{st:St}{w:World}(hr:Rel φ st w)(o:Obj)(a:AObj)(l:Loc)(hl:l.b=w.heap.size)(hobj:Cx (φ.push l) (w.alloc o) φ.n a) :
  Rel (φ.push l) (st.push a) (w.alloc o)∧Fr φ st w (φ.push l) (st.push a) (w.alloc o):=by
 have hold:∀ id x,st.h.get id=some x→id<φ.n∧(φ.push l).f id=φ.f id:=fun id x hx=>by
  have h1:=hr.lt id x hx
  rw[←hr.n] at h1
  exact⟨h1,(φ.Aw l).f id h1⟩
 refine⟨⟨by simp[Fi.push,St.push,hr.n],fun id x hx=>?_,fun id x hx=>?_,fun id x hx=>?_,fun i j oi oj hi hj hij ho=>?_⟩,⟨rfl,rfl,rfl,by rw[Dv];omega,fun k hk _=>Dg w o k hk,fun k hk=>?_⟩⟩
 ·rw[St.Bf] at hx
  split at hx
  ·show _<st.n+1;omega
  ·show _<st.n+1;have:=hr.lt id x hx;omega
 ·rw[Dv]
  rw[St.Bf] at hx
  split at hx
  ·rename_i h;rw[←hr.n] at h;subst h;rw[Fi.Ai,hl];omega
  ·rw[(hold id x hx).2];have:=hr.blk id x hx;omega
 ·rw[St.Bf] at hx
  split at hx
  ·rename_i h;rw[←hr.n] at h;subst h;cases hx;exact hobj
  ·exact(hr.obj id x hx).same (φ.Aw l) (hold id x hx).1 (Dg w o _ (hr.blk id x hx))
 ·rw[St.Bf] at hi hj
  split at hi
  ·rename_i h1
   rw[←hr.n] at h1;subst h1
   split at hj
   ·rename_i h2;rw[←hr.n] at h2;exact absurd h2 hij
   ·intro hb
    rw[Fi.Ai,(hold j oj hj).2,hl] at hb
    have:=hr.blk j oj hj;omega
  ·split at hj
   ·rename_i h2
    rw[←hr.n] at h2;subst h2
    intro hb
    rw[Fi.Ai,(hold i oi hi).2,hl] at hb
    have:=hr.blk i oi hi;omega
   ·rw[(hold i oi hi).2,(hold j oj hj).2]
    exact hr.sep i j oi oj hi hj hij ho
 ·obtain⟨id,x,hx,ho,hb⟩:=hk
  rw[St.Bf] at hx
  split at hx
  ·rename_i h;rw[←hr.n] at h;subst h;rw[Fi.Ai,hl] at hb;right;omega
  ·left;exact⟨id,x,hx,ho,by rw[←(hold id x hx).2];exact hb⟩
theorem Cx.new {φ:Fi}{w:World}{cs:List AV}{us rest:List Value}(h:VRL φ cs us)(c:Array Value)(hc:c.toList=us++rest)(t:TypeId) :
  Cx (φ.push ⟨w.heap.size,0,c.size⟩) (w.alloc (.cells c t)) φ.n (.cells none false cs):=by
 refine⟨fun i a ha=>?_,fun _=>⟨c,t,?_,by rw[Fi.Ai],?_⟩⟩
 ·obtain⟨u,hu,hr⟩:=h.get i a ha
  refine⟨u,?_,hr.mono (φ.Aw _)⟩
  rw[Fi.Ai]
  unfold World.cell?
  simp only [Bi]
  have:c[i]?=some u:=by
   rw[←Array.getElem?_toList,hc,List.getElem?_append_left ((List.getElem?_eq_some_iff.1 hu).1)]
   exact hu
  simpa using this
 ·rw[Fi.Ai];exact Bi w _
 ·rw[Fi.Ai]
  have h1:=h.length
  have h2:c.size=us.length+rest.length:=by rw[←Array.length_toList,hc,List.length_append]
  simp only
  omega
theorem Rel.Sq {φ:Fi}{st:St}{w w':World}(hr:Rel φ st w){id:Nat}{o o':AObj}(ho:st.h.get id=some o)(hown:o.own=true)(hfam:o.fam=none)
  (hos:w'.os=w.os)(htape:w'.tape=w.tape)(hout:w'.output=w.output)(hsize:w'.heap.size=w.heap.size)(hblock:∀ k,k≠(φ.f id).b→w'.heap[k]?=w.heap[k]?)(hobj:Cx φ w' id o') :
  Rel φ ⟨st.h.set id o',st.n⟩ w'∧Fr φ st w φ ⟨st.h.set id o',st.n⟩ w':=by
 have hother:∀ j x,st.h.get j=some x→j≠id→(φ.f j).b≠(φ.f id).b:=fun j x hx hj hb=>by
  obtain⟨⟨f,hf,_⟩,_⟩:=hr.sep id j o x ho hx (Ne.symm hj) hown hb.symm
  rw[hfam] at hf;cases hf
 have Bw:∀ j x,(st.h.set id o').get j=some x→(j=id∧x=o')∨(j≠id∧st.h.get j=some x):=fun j x hx=>by
  rw[Hp.Hw] at hx
  by_cases hj:j=id
  ·subst hj;left;simpa[ho,eq_comm] using hx
  ·right;simpa[hj] using hx
 refine⟨⟨hr.n,fun j x hx=>?_,fun j x hx=>?_,fun j x hx=>?_,fun i j oi oj hi hj hij hio=>?_⟩,⟨hos,htape,hout,by omega,fun k hk hn=>hblock k (fun hb=>hn ⟨id,o,ho,hown,hb.symm⟩),fun k hk=>?_⟩⟩
 ·rcases Bw j x hx with ⟨rfl,rfl⟩|⟨_,h⟩
  ·exact hr.lt j o ho
  ·exact hr.lt j x h
 ·rw[hsize]
  rcases Bw j x hx with ⟨rfl,rfl⟩|⟨_,h⟩
  ·exact hr.blk j o ho
  ·exact hr.blk j x h
 ·rcases Bw j x hx with ⟨rfl,rfl⟩|⟨hj,h⟩
  ·exact hobj
  ·exact(hr.obj j x h).same (Ext.refl _) (by rw[hr.n];exact hr.lt j x h) (hblock _ (hother j x h hj))
 ·intro hb
  rcases Bw i oi hi with ⟨rfl,rfl⟩|⟨hi',h1⟩
  ·rcases Bw j oj hj with ⟨rfl,rfl⟩|⟨hj',h2⟩
   ·exact absurd rfl hij
   ·exact absurd hb.symm (hother j oj h2 hj')
  ·rcases Bw j oj hj with ⟨rfl,rfl⟩|⟨hj',h2⟩
   ·exact absurd hb (hother i oi h1 hi')
   ·exact hr.sep i j oi oj h1 h2 hij hio hb
 ·obtain⟨j,x,hx,hxo,hb⟩:=hk
  left
  rcases Bw j x hx with ⟨rfl,rfl⟩|⟨_,h⟩
  ·exact⟨j,o,ho,hown,hb⟩
  ·exact⟨j,x,h,hxo,hb⟩
end Go.Ev
