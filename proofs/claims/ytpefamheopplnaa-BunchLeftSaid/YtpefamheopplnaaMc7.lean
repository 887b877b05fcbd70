/- Own work of the verifier of watercress: EvT. -/
import Derived.Test.YtpefamheopplnaaMc6
set_option linter.unusedVariables false
set_option linter.unusedSimpArgs false
namespace Go.Ev
section
variable {P:Program}{T:Ti}
def ZOk (P:Program)(Z:TypeId→Option Value):Prop:=∀ t z,Z t=some z→∀ w,(zeroValue t).run P w=.ok z w
theorem Oy {t:TypeId}{z:Value}(h:(P.info? t).bind (·.zero)=some z)(w:World):(zeroValue t).run P w=.ok z w:=by
 cases hi:P.info? t with
 | none=>rw[hi] at h;cases h
 | some ti =>
  rw[hi] at h
  have h2:ti.zero=some z:=h
  simp[zeroValue,typeInfo,Sem.run_bind,program,Sem.run,Result.andThen,hi,h2]
def mapKE (T:Ti)(t:TypeId):Option (TypeId × TypeId):=match T t with
 | some i=>match i.desc with
  | .map k e=>some (k,e)
  | _=>none
 | none=>none
def okA (c:Bool)(v:AV)(b:Bool):AV:=match c with
 | true=>.tup [v,.lit (.bool b)]
 | false=>v
variable (P T) in
def xLook (KT:List TypeId)(Z:TypeId→Option Value)(st:St)(ρ:Operand→AV)(o:Oper):Option (List (AV × St)) :=
 match o.op with
 | .lookup t m k c=>match mapKE T t with
  | some (kt,e)=>match Z e with
   | some z=>match esOf st (ρ m) with
    | some (_,es,_)=>if KT.contains kt&&keyB P kt (ρ k)&&es.all (fun x=>keyB P kt x.1) then
      match idxs (ρ k) 0 es with
      | []=>some [(okA c (ofV z) false,st)]
      | [j]=>match es[j]? with
       | some x=>some [(okA c x.2.1 true,st)]
       | none=>none
      | _=>none
     else none
    | none=>none
   | none=>none
  | none=>none
 | _=>none
theorem lA {φ:Fi}{c b:Bool}{v:AV}{u:Value}(h:VR φ v u):VR φ (okA c v b) (if c then .tuple #[u,.bool b] else u):=by
 cases c with
 | true=>exact .tup (us:=[u,.bool b]) (.cons h (.cons (.lit _) .nil))
 | false=>exact h
theorem look_ok {hT:TOk P T}{φ:Fi}{st:St}{w:World}{t kt e:TypeId}{c:Bool}{a k:AV}{u ku:Value}{id clock:Nat}{es:List (AV × AV × Nat)}{z:Value}{r:AV}(hK:Maps.Keyed P kt)(hr:Rel φ st w)(ha:VR φ a u)(hku:VR φ k ku)(hu:P.underlying t=some (.map kt e))(hz:(zeroValue e).run P w=.ok z w)(h:esOf st a=some (id,es,clock))
  (hc:(keyB P kt k&&es.all (fun x=>keyB P kt x.1))=true)
  (ho:(match idxs k 0 es with
   | []=>some (okA c (ofV z) false)
   | [j]=>match es[j]? with
    | some x=>some (okA c x.2.1 true)
    | none=>none
   | _=>none)=some r) :
  ∃ v,(Instr.lookup t u ku c).run P w=.ok v w∧VR φ r v:=by
 obtain⟨rfl,hid,hom,ces,hb,hsz,hes⟩:=Ia hr ha h
 simp only [Bool.and_eq_true] at hc
 have hkey:∀ {b:AV}{bu:Value},keyB P kt b=true→VR φ b bu→valK b=some bu∧∃ l,keyOf P kt bu=some l:=fun {b bu} h1 h2=>by
  unfold keyB at h1
  split at h1
  ·rename_i v' hv'
   have:=Sa h2 hv'
   subst this
   exact⟨hv',Option.isSome_iff_exists.1 h1⟩
  ·cases h1
 obtain⟨hkv,lx,hlx⟩:=hkey hc.1 hku
 have hall:∀ e∈ces.toList,∃ l,keyOf P kt e.key=some l:=fun e he=>by
  obtain⟨x,hx,h2,_,_⟩:=Lk (seen:=[]) hsz hes he
  exact(hkey (List.all_eq_true.1 hc.2 x hx) h2).2
 have hcheck:=hK.check w ces.isEmpty hlx
 rcases hK.find w hlx ces.toList hall with ⟨hrun,hne⟩|⟨j,e0,hrun,hj,hje⟩
 ·have hnil:idxs k 0 es=[]:=by
   cases hq:idxs k 0 es with
   | nil=>rfl
   | cons i r =>
    exfalso
    obtain⟨x,h1,_,h3⟩:=Ud (show i∈idxs k 0 es by rw[hq];simp)
    obtain⟨e,hem,h4,_,_⟩:=Kg hes (List.mem_of_getElem? h1)
    have h5:=Lr h3
    rw[h5] at h4
    exact hne e hem (Sa h4 hkv)
  rw[hnil] at ho
  cases ho
  refine⟨_,?_,lA (Xj φ z)⟩
  cases c<;>simp[Instr.lookup,run_underlying hu,MapKept.run_getObj_map hb,hcheck,hrun,hz,Result.andThen]
 ·have hjl:j<es.length:=by
   have:j<ces.toList.length:=(List.getElem?_eq_some_iff.1 hj).1
   rw[←hsz];simpa using this
  have hjc:ces[j]?=some e0:=by rw[←Array.getElem?_toList];exact hj
  obtain⟨e',k1,k2,k3,k4⟩:=hes j es[j] (List.getElem?_eq_getElem hjl)
  have hee:e'=e0:=by rw[hjc] at k1;exact(Option.some.inj k1).symm
  subst hee
  have hmem:0+j∈idxs k 0 es:=Tv (List.getElem?_eq_getElem hjl) (by
   have h5:=(hkey (List.all_eq_true.1 hc.2 es[j] (List.getElem_mem hjl)) k2).1
   rw[hje] at h5
   exact eJ h5 hkv)
  rw[Nat.zero_add] at hmem
  split at ho
  ·rename_i hq;rw[hq] at hmem;cases hmem
  ·rename_i j' hq
   rw[hq] at hmem
   have:j=j':=by simpa using hmem
   subst this
   rw[List.getElem?_eq_getElem hjl] at ho
   cases ho
   refine⟨_,?_,lA k3⟩
   cases c<;>simp[Instr.lookup,run_underlying hu,MapKept.run_getObj_map hb,hcheck,hrun,Result.andThen]
  ·cases ho
theorem Yl (hT:TOk P T){KT:List TypeId}(hK:∀ k∈KT,Maps.Keyed P k){Z:TypeId→Option Value}(hZ:ZOk P Z):XOk P (xLook P T KT Z):=by
 intro rd ops i f st o outs ho hw h
 unfold xLook at h
 split at h
 ·rename_i t m k c hx
  split at h
  ·rename_i kt e hkt
   have hu:P.underlying t=some (.map kt e):=by
    unfold mapKE at hkt
    split at hkt
    ·rename_i ti hti
     split at hkt
     ·rename_i k' e' hd
      cases hkt
      have:=(hT t ti hti).und
      rw[hd] at this
      exact this
     ·cases hkt
    ·cases hkt
   split at h
   ·rename_i z hz
    split at h
    ·rename_i id es clock hes
     split at h
     ·rename_i hc
      simp only [Bool.and_eq_true] at hc
      have hout:∃ r,(match idxs (Operand.av f.ts k) 0 es with
        | []=>some (okA c (ofV z) false)
        | [j]=>match es[j]? with
         | some x=>some (okA c x.2.1 true)
         | none=>none
        | _=>none)=some r∧outs=[(r,st)]:=by
       split at h
       ·cases h;exact⟨_,rfl,rfl⟩
       ·split at h
        ·cases h;exact⟨_,rfl,rfl⟩
        ·cases h
       ·cases h
      obtain⟨r,hr,rfl⟩:=hout
      refine Ac.Jj ho hw (fun c hc=>by rw[hx] at hc;cases hc) fun φ w a h2 h3=>?_
      have hρ:=Bm h3.ts
      obtain⟨v,k1,k2⟩:=look_ok (hT:=hT) (c:=c) (hK kt (List.contains_iff_mem.1 hc.1.1)) h2 (hρ m) (hρ k) hu (hZ e z hz w) hes (by simp only [Bool.and_eq_true];exact⟨hc.1.2,hc.2⟩) hr
      exact⟨r,st,φ,w,v,List.mem_singleton.2 rfl,.inl (by simp[execOp,hx,k1,Result.andThen]),k2,h2,Ext.refl _,Fr.refl _ _ _⟩
     ·cases h
    ·cases h
   ·cases h
  ·cases h
 ·cases h
end
end Go.Ev
