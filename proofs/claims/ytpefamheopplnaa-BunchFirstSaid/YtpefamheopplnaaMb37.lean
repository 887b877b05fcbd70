/- Own work of the verifier of watercress: FzD8, FzB18, FzB43, FzD9, FzD10, FzD11. -/
import Derived.Test.YtpefamheopplnaaMb36
import Derived.Test.YtpefamheopplnaaMb33
import Derived.Test.YtpefamheopplnaaMb29
import Derived.Test.YtpefamheopplnaaMb32
import Derived.Test.YtpefamheopplnaaMb31
set_option linter.unusedVariables false
set_option linter.unusedSimpArgs false
namespace Go.Fz
open Go.Proofs
set_option maxRecDepth 100000
section
theorem qbx.tabG {n0:Nat}{tb:List (Nat × Nat)}{f1:Fm}{st1:St}{l:List (Nat × AV)}{len:Nat}{dm:List Nat}{h2:Hp}{n2:Nat}(F:Nat→Option Nat)(hF:∀ i j f,F i=some f→F j=some f→i=j)(e1:len=f1.ts.len)(e2:dm=f1.dm)(e3:∀ id∈dm,id<n0)(hid:(tb.all fun p=>Nat.ble n0 p.1)=true)(lo:n0≤n2)
    (hinj:(h2.all fun p=>h2.all fun q=>!(Nat.beq (tabR tb p.1) (tabR tb q.1))||Nat.beq p.1 q.1)=true)
    (get:qm5 (fun p=>qaf (tabR tb) n2 p.2 (f1.ts.get p.1)) l)(obj:qm5 (fun p=>p.1<n2∧∃ o1,st1.h.get (tabR tb p.1)=some o1∧qm3 (tabR tb) n2 p.2 o1∧o1.fam=F p.1) h2):qbx n0 (tabR tb) f1 st1 ⟨⟨len,getT l⟩,dm⟩ ⟨h2,n2⟩:=by
  have ho:=obj.ok
  have hj:=qqo hinj
  refine⟨e1,e2,e3,qst hid,fun i=>?_,lo,fun id o h=>?_,fun i j oi oj hi hj' hij pi pj h1 h2=>⟨fun h=>hij ?_,fun⟨f,k1,k2⟩=>?_⟩⟩
  · show qaf _ n2 (getT l i) _
    have hg:=get.ok
    clear get obj ho hj hinj
    induction l with
    | nil=>exact qaf.any
    | cons p r ih =>
      obtain⟨j,a⟩:=p
      simp only [getT]
      cases hb:Nat.beq j i with
      | true =>
        obtain rfl:=Nat.eq_of_beq_eq_true hb
        exact hg _ List.mem_cons_self
      | false=>exact ih fun q hq=>hg q (List.mem_cons_of_mem _ hq)
  · obtain⟨h3,o1,h4,h5,_⟩:=ho _ (Hp.qa2 h)
    exact⟨h3,o1,h4,h5⟩
  · exact hj _ (Hp.qa2 hi) _ (Hp.qa2 hj') h
  · obtain⟨_,o1,h3,_,h4⟩:=ho _ (Hp.qa2 hi)
    obtain⟨_,o2,h5,_,h6⟩:=ho _ (Hp.qa2 hj')
    rw[show tabR tb (i,oi).1=tabR tb i from rfl,h1] at h3
    rw[show tabR tb (j,oj).1=tabR tb j from rfl,h2] at h5
    cases h3;cases h5
    exact hij (hF i j f (h4.symm.trans k1) (h6.symm.trans k2))
end
theorem qk9 (m:Nat)(st:St):qax Try.prog 60 [.mp m] st (fun v st'=>v=.fn (.func 99) [] [.ptr st.n 0]∧st'=st.push (.cells none false [.mp m])):=by
  obtain⟨O,hO⟩:∃ O:Ar,O=std:=⟨_,rfl⟩
  refine qat tok Try.func60 rfl ?_
  refine SW.qab tok hO (by cbv <;> rfl) (by trivial) ?_
  refine SW.qab tok hO (by cbv <;> rfl) (by trivial) ?_
  exact SW.ret ⟨_,_,rfl,rfl,rfl,rfl⟩
theorem qv7 (L:Nat)(G:Nat→Nat→AV)(st:St):qax Try.prog 64 [.isl L 8 false G] st (fun v st'=>v=.fn (.func 100) [] [.ptr st.n 0]∧st'=st.push (.cells none false [.isl L 8 false G])):=by
  obtain⟨O,hO⟩:∃ O:Ar,O=std:=⟨_,rfl⟩
  refine qat tok Try.func64 rfl ?_
  refine SW.qab tok hO (by cbv <;> rfl) (by trivial) ?_
  refine SW.qab tok hO (by cbv <;> rfl) (by trivial) ?_
  exact SW.ret ⟨_,_,rfl,rfl,rfl,rfl⟩
structure WomanE (d:qai)(Y:AV)(lo0 hi0 lo1 hi1 lo2 hi2:Nat→Int)(w:Nat)(ME:List (AV × AV × Nat))(c:Nat):Prop where
  cl:∀ x∈ME,Below 0 x.1∧Below 0 x.2.1
  had:∀ st,qax Try.prog 58 [.agg [iV d.hand,iV d.flat,qcv d,qdg d,qd8 d,Y,.mp 2],iV w] st (fun v st'=>v=.mp st.n∧st'=st.push (.map ME c))
  e61:∀ {st:St}{mid bid:Nat}{fm:Option Nat}{ro:Bool},st.h.get mid=some (.map ME c)→st.h.get bid=some (.cells fm ro [.mp mid])→qax Try.prog 59 [.fn (.func 99) [] [.ptr bid 0],.fn (.func 61) [] []] st (fun v st'=>v=qc8 (lo0 w) (hi0 w)∧st'=st)
  e62:∀ {st:St}{mid bid:Nat}{fm:Option Nat}{ro:Bool},st.h.get mid=some (.map ME c)→st.h.get bid=some (.cells fm ro [.mp mid])→qax Try.prog 59 [.fn (.func 99) [] [.ptr bid 0],.fn (.func 62) [] []] st (fun v st'=>v=qc8 (lo1 w) (hi1 w)∧st'=st)
  e63:∀ {st:St}{mid bid:Nat}{fm:Option Nat}{ro:Bool},st.h.get mid=some (.map ME c)→st.h.get bid=some (.cells fm ro [.mp mid])→qax Try.prog 59 [.fn (.func 99) [] [.ptr bid 0],.fn (.func 63) [] []] st (fun v st'=>v=qc8 (lo2 w) (hi2 w)∧st'=st)
def qnz (Y:AV)(g:FuncId)(lo hi:Int):Prop:=∀ {st:St}{bid:Nat}{fm:Option Nat}{ro:Bool},st.h.get bid=some (.cells fm ro [Y])→qax Try.prog 65 [.fn (.func 100) [] [.ptr bid 0],.fn (.func g) [] []] st (fun v st'=>v=qc8 lo hi∧st'=st)
def bndC (nw:Nat)(lo0 hi0 lo1 hi1 lo2 hi2:Nat→Int)(p q r s t u v w:Int):List AV:=[.isl nw 2 false (rngC lo0 hi0),.isl nw 2 false (rngC lo1 hi1),.isl nw 2 false (rngC lo2 hi2),iV p,iV q,iV r,iV s,iV t,iV u,iV v,iV w]
def bnd0:List AV:=[nl3,nl3,nl3,iV 0,iV 0,iV 0,iV 0,iV 0,iV 0,iV 0,iV 0]
def bndS (A B C:AV):List AV:=[A,B,C,iV 0,iV 0,iV 0,iV 0,iV 0,iV 0,iV 0,iV 0]
theorem qck (lo hi:Nat→Int)(i k:Nat):Below 0 (rngC lo hi i k):=by unfold rngC;split <;> exact Below.lit
def F567 (j:Nat):Option Nat:=if j=5∨j=6∨j=7 then some j else none
theorem F567_inj:∀ i j f,F567 i=some f→F567 j=some f→i=j:=fun i j f hi hj=>by
  unfold F567 at hi hj
  split at hi
  · split at hj
    · cases hi;cases hj;rfl
    · cases hj
  · cases hi
set_option maxHeartbeats 64000000 in
theorem qo6 (d:qai)(hpos:0<d.nw)(hnw:d.nw≤4)(L:Nat)(G:Nat→Nat→AV)(hY:Below 0 (.isl L 8 false G))(ME:List (AV × AV × Nat))(cl:Nat)
    (lo0 hi0 lo1 hi1 lo2 hi2:Nat→Int)(p q r s t u v w:Int)
    (e2:qpc Try.prog 57 [qdp d,.lit (.bool true)] (fun k=>.tup [.agg [iV d.hand,iV d.flat,qcv d,qdg d,qd8 d,.isl L 8 false G,.mp k],iV 0]) ME cl)
    (hw:∀ i,i<d.nw→∃ M c,WomanE d (.isl L 8 false G) lo0 hi0 lo1 hi1 lo2 hi2 i M c)
    (h66:qnz (.isl L 8 false G) 66 p q)(h67:qnz (.isl L 8 false G) 67 r s)(h68:qnz (.isl L 8 false G) 68 t u)(h69:qnz (.isl L 8 false G) 69 v w) :
    Pure Try.prog 18 [qdp d] (.tup [.agg (bndC d.nw lo0 hi0 lo1 hi1 lo2 hi2 p q r s t u v w),iV 0]):=by
  obtain⟨O,hO⟩:∃ O:Ar,O=std:=⟨_,rfl⟩
  have hnat:∀ i:Nat,O.nat (Int.ofNat i)=i:=fun i=>by subst hO;rfl
  have hcells:∀ x∈[iV d.hand,iV d.flat,qcv d,qdg d,qd8 d,.isl L 8 false G],Below 0 x:=qb2.ok ⟨Below.lit,Below.lit,qau d,qa0 d,qbl d,hY,trivial⟩
  refine qad tok 5 Try.func18 en18 rfl ⟨qal d,trivial⟩ (Below.tup (qb2.ok ⟨Below.agg (qb2.ok ⟨Below.isl fun i k _ _=>qck _ _ i k,Below.isl fun i k _ _=>qck _ _ i k,Below.isl fun i k _ _=>qck _ _ i k,Below.lit,Below.lit,Below.lit,Below.lit,Below.lit,Below.lit,Below.lit,Below.lit,trivial⟩),Below.lit,trivial⟩)) ?_
  refine SW.qab tok hO (by cbv <;> rfl) (by trivial) ?_
  refine SW.seq (SW.runN tok hO 1 (by cbv <;> rfl) (by trivial) ?_)
  refine qac.qdu e2.ent (e2.call _) (by cbv <;> rfl) fun v1 st' hk=>?_
  obtain⟨rfl,rfl⟩:=hk
  refine qac.run tok hO (by cbv <;> rfl) (by trivial) ?_
  refine SW.seq ?_
  refine SW.qab tok hO (by cbv <;> rfl) (by trivial) ?_
  refine SW.qa6 (by cbv <;> rfl) (fun h1=>?_) (fun h1=>SW.skip ?_)
  · exfalso
    subst hO;simp[std] at h1
  refine SW.qab tok hO (by cbv <;> rfl) (by trivial) ?_
  refine SW.seq ?_
  refine SW.qab tok hO (by cbv <;> rfl) (by trivial) ?_
  refine(SW.block (SW.qmn (fun i:Nat=>⟨⟨70,getT [(2,.ptr 1 0),(4,.ptr 3 0),(6,.ptr 4 0),(22,iV d.nw),(23,iV i)]⟩,[]⟩)
    (fun i=>⟨[(4,.cells none false (bndS (slG 5 2 i) (slG 6 2 i) (slG 7 2 i))),(3,.cells none false [iV d.hand,iV d.flat,qcv d,qdg d,qd8 d,.isl L 8 false G,.mp 2]),(1,.cells none false bnd0)]++(objG 5 2 (rngC lo0 hi0) i++(objG 6 2 (rngC lo1 hi1) i++objG 7 2 (rngC lo2 hi2) i)),8⟩) (fun i=>d.nw - i) (fun i=>i≤d.nw) 0 (Nat.zero_le _) (tabR []) ?_ fun i hi=>?_))
  · exact qbx.tabG (fun _=>none) (fun _ _ _ h=>nomatch h) rfl rfl (by simp) (by rfl) (by show 5≤8;omega) (by rfl) ⟨qaf.ptr (by omega),qaf.ptr (by omega),qaf.ptr (by omega),qaf.closed Below.lit,qaf.closed Below.lit,trivial⟩
      ⟨⟨by omega,_,rfl,.cells (.cons (qaf.closed Below.lit) (.cons (qaf.closed Below.lit) (.cons (qaf.closed Below.lit) (.cons (qaf.closed Below.lit) (.cons (qaf.closed Below.lit) (.cons (qaf.closed Below.lit) (.cons (qaf.closed Below.lit) (.cons (qaf.closed Below.lit) (.cons (qaf.closed Below.lit) (.cons (qaf.closed Below.lit) (.cons (qaf.closed Below.lit) .nil))))))))))),rfl⟩,
        ⟨by omega,_,rfl,.cells (.cons (qaf.closed Below.lit) (.cons (qaf.closed Below.lit) (.cons (qaf.closed (qau d)) (.cons (qaf.closed (qa0 d)) (.cons (qaf.closed (qbl d)) (.cons (qaf.closed hY) (.cons (qaf.mp (by omega)) .nil))))))),rfl⟩,
        ⟨by omega,_,rfl,.cells (qay.closed (qb2.ok ⟨Below.lit,Below.lit,Below.lit,Below.lit,Below.lit,Below.lit,Below.lit,Below.lit,Below.lit,Below.lit,Below.lit,trivial⟩)),rfl⟩,trivial⟩
  cases i with
  | zero =>
    refine SW.qab tok hO (by cbv <;> rfl) (by trivial) ?_
    refine SW.seq (SW.qa6 (by cbv <;> rfl) (fun h=>SW.skip ?_) (fun h=>?_))
    · obtain⟨M,c,HW⟩:=hw 0 hpos
      have k61:=fun {st:St}{mid bid:Nat}{fm:Option Nat}{ro:Bool}(h1:st.h.get mid=some (.map M c))(h2:st.h.get bid=some (.cells fm ro [.mp mid]))=>HW.e61 h1 h2
      have k62:=fun {st:St}{mid bid:Nat}{fm:Option Nat}{ro:Bool}(h1:st.h.get mid=some (.map M c))(h2:st.h.get bid=some (.cells fm ro [.mp mid]))=>HW.e62 h1 h2
      have k63:=fun {st:St}{mid bid:Nat}{fm:Option Nat}{ro:Bool}(h1:st.h.get mid=some (.map M c))(h2:st.h.get bid=some (.cells fm ro [.mp mid]))=>HW.e63 h1 h2
      have khad:=HW.had
      obtain⟨a0,ha0⟩:∃ x,lo0 0=x:=⟨_,rfl⟩
      obtain⟨b0,hb0⟩:∃ x,hi0 0=x:=⟨_,rfl⟩
      obtain⟨a1,ha1⟩:∃ x,lo1 0=x:=⟨_,rfl⟩
      obtain⟨b1,hb1⟩:∃ x,hi1 0=x:=⟨_,rfl⟩
      obtain⟨a2,ha2⟩:∃ x,lo2 0=x:=⟨_,rfl⟩
      obtain⟨b2,hb2⟩:∃ x,hi2 0=x:=⟨_,rfl⟩
      rw[ha0,hb0] at k61
      rw[ha1,hb1] at k62
      rw[ha2,hb2] at k63
      refine SW.seq (SW.block ?_)
      refine SW.qab tok hO (by cbv <;> rfl) (by trivial) ?_
      refine SW.seq (SW.runN tok hO 2 (by cbv <;> rfl) (by trivial) ?_)
      refine qac.qdu en58 (khad _) (by cbv <;> rfl) fun v1 st' hk=>?_
      obtain⟨rfl,rfl⟩:=hk
      refine qac.run tok hO (by cbv <;> rfl) (by trivial) ?_
      refine SW.qbf tok mixed hO (by rfl) (by cbv <;> rfl) (by trivial) ?_
      refine AnyE.many [3] (by cbv <;> rfl) (by rfl) ⟨?_,trivial⟩
      refine qd9.qr3 en60 (qk9 8 _) (by cbv <;> rfl) (by cbv <;> rfl) fun r st' hk=>?_
      obtain⟨rfl,rfl⟩:=hk
      refine⟨(by repeat (first | exact trivial | refine And.intro (by first | exact qby hO (by cbv <;> rfl) (by trivial) | (cbv <;> rfl)) ?_)),?_⟩
      refine AnyE.run tok hO (by rfl) (by cbv <;> rfl) (by trivial) ?_
      refine AnyE.qdu en59 (k61 rfl rfl) (by cbv <;> rfl) (by cbv <;> rfl) ?_
      refine AnyE.run tok hO (by rfl) (by cbv <;> rfl) (by trivial) ?_
      refine AnyE.qey tok hO (by cbv <;> rfl) (by cbv <;> rfl) (by trivial) ?_ ?_
      · exact(by repeat (first | exact trivial | refine And.intro (by first | exact qby hO (by cbv <;> rfl) (by trivial) | (cbv <;> rfl)) ?_))
      refine AnyE.run tok hO (by rfl) (by cbv <;> rfl) (by trivial) ?_
      refine AnyE.qev tok (by cbv <;> rfl) (by cbv <;> rfl) (by rfl) (by kernel_rfl) (by rfl) (by rfl) ?_
      refine AnyE.run tok hO (by rfl) (by cbv <;> rfl) (by trivial) ?_
      refine AnyE.eff tok hO (by cbv <;> rfl) (by cbv <;> rfl) (by trivial) ?_
      refine AnyE.done (by rfl) ?_
      refine SW.qbf tok mixed hO (by rfl) (by cbv <;> rfl) (by trivial) ?_
      refine AnyE.many [3] (by cbv <;> rfl) (by rfl) ⟨?_,trivial⟩
      refine qd9.qr3 en60 (qk9 8 _) (by cbv <;> rfl) (by cbv <;> rfl) fun r st' hk=>?_
      obtain⟨rfl,rfl⟩:=hk
      refine⟨(by repeat (first | exact trivial | refine And.intro (by first | exact qby hO (by cbv <;> rfl) (by trivial) | (cbv <;> rfl)) ?_)),?_⟩
      refine AnyE.run tok hO (by rfl) (by cbv <;> rfl) (by trivial) ?_
      refine AnyE.qdu en59 (k62 rfl rfl) (by cbv <;> rfl) (by cbv <;> rfl) ?_
      refine AnyE.run tok hO (by rfl) (by cbv <;> rfl) (by trivial) ?_
      refine AnyE.qey tok hO (by cbv <;> rfl) (by cbv <;> rfl) (by trivial) ?_ ?_
      · exact(by repeat (first | exact trivial | refine And.intro (by first | exact qby hO (by cbv <;> rfl) (by trivial) | (cbv <;> rfl)) ?_))
      refine AnyE.run tok hO (by rfl) (by cbv <;> rfl) (by trivial) ?_
      refine AnyE.qev tok (by cbv <;> rfl) (by cbv <;> rfl) (by rfl) (by kernel_rfl) (by rfl) (by rfl) ?_
      refine AnyE.run tok hO (by rfl) (by cbv <;> rfl) (by trivial) ?_
      refine AnyE.eff tok hO (by cbv <;> rfl) (by cbv <;> rfl) (by trivial) ?_
      refine AnyE.done (by rfl) ?_
      refine SW.runD tok mixed hO (by rfl) (by cbv <;> rfl) (by trivial) ?_
      refine AnyE.many [3] (by cbv <;> rfl) (by rfl) ⟨?_,trivial⟩
      refine qd9.qr3 en60 (qk9 8 _) (by cbv <;> rfl) (by cbv <;> rfl) fun r st' hk=>?_
      obtain⟨rfl,rfl⟩:=hk
      refine⟨(by repeat (first | exact trivial | refine And.intro (by first | exact qby hO (by cbv <;> rfl) (by trivial) | (cbv <;> rfl)) ?_)),?_⟩
      refine AnyE.run tok hO (by rfl) (by cbv <;> rfl) (by trivial) ?_
      refine AnyE.qdu en59 (k63 rfl rfl) (by cbv <;> rfl) (by cbv <;> rfl) ?_
      refine AnyE.run tok hO (by rfl) (by cbv <;> rfl) (by trivial) ?_
      refine AnyE.qey tok hO (by cbv <;> rfl) (by cbv <;> rfl) (by trivial) ?_ ?_
      · exact(by repeat (first | exact trivial | refine And.intro (by first | exact qby hO (by cbv <;> rfl) (by trivial) | (cbv <;> rfl)) ?_))
      refine AnyE.run tok hO (by rfl) (by cbv <;> rfl) (by trivial) ?_
      refine AnyE.qev tok (by cbv <;> rfl) (by cbv <;> rfl) (by rfl) (by kernel_rfl) (by rfl) (by rfl) ?_
      refine AnyE.run tok hO (by rfl) (by cbv <;> rfl) (by trivial) ?_
      refine AnyE.eff tok hO (by cbv <;> rfl) (by cbv <;> rfl) (by trivial) ?_
      refine AnyE.done (by rfl) ?_
      refine SW.run tok hO (by cbv <;> rfl) (by trivial) ?_
      refine⟨1,by omega,by omega,tabR [(5,11),(6,14),(7,17)],?_⟩
      refine qbx.tabG (fun _=>none) (fun _ _ _ h=>nomatch h) rfl rfl (by simp) (by rfl) (by show 5≤8;omega) (by rfl) ⟨qaf.ptr (by omega),qaf.ptr (by omega),qaf.ptr (by omega),qaf.closed Below.lit,qaf.inc hO (by omega),trivial⟩
        ⟨⟨by omega,_,rfl,.cells (.cons (qaf.sl (by omega)) (.cons (qaf.sl (by omega)) (.cons (qaf.sl (by omega)) (.cons (qaf.closed Below.lit) (.cons (qaf.closed Below.lit) (.cons (qaf.closed Below.lit) (.cons (qaf.closed Below.lit) (.cons (qaf.closed Below.lit) (.cons (qaf.closed Below.lit) (.cons (qaf.closed Below.lit) (.cons (qaf.closed Below.lit) .nil))))))))))),rfl⟩,
          ⟨by omega,_,rfl,.cells (.cons (qaf.closed Below.lit) (.cons (qaf.closed Below.lit) (.cons (qaf.closed (qau d)) (.cons (qaf.closed (qa0 d)) (.cons (qaf.closed (qbl d)) (.cons (qaf.closed hY) (.cons (qaf.mp (by omega)) .nil))))))),rfl⟩,
          ⟨by omega,_,rfl,.cells (qay.closed (qb2.ok ⟨Below.lit,Below.lit,Below.lit,Below.lit,Below.lit,Below.lit,Below.lit,Below.lit,Below.lit,Below.lit,Below.lit,trivial⟩)),rfl⟩,
          ⟨by omega,_,rfl,.cells (qay.of_eq (by rw[←ha0,←hb0];rfl) (qar (qck lo0 hi0) 1)),rfl⟩,⟨by omega,_,rfl,.cells (qay.of_eq (by rw[←ha1,←hb1];rfl) (qar (qck lo1 hi1) 1)),rfl⟩,⟨by omega,_,rfl,.cells (qay.of_eq (by rw[←ha2,←hb2];rfl) (qar (qck lo2 hi2) 1)),rfl⟩,trivial⟩
    · exfalso
      have:d.nw≤0:=by subst hO;simpa[std] using h
      omega
  | succ i =>
    obtain⟨G0,hG0⟩:∃ G,G=flatG 2 (rngC lo0 hi0) (i+1):=⟨_,rfl⟩
    obtain⟨G1,hG1⟩:∃ G,G=flatG 2 (rngC lo1 hi1) (i+1):=⟨_,rfl⟩
    obtain⟨G2,hG2⟩:∃ G,G=flatG 2 (rngC lo2 hi2) (i+1):=⟨_,rfl⟩
    show SW _ _ _ _ _ ⟨[(4,.cells none false (bndS (.sl 5 0 (i+1) 2 false) (.sl 6 0 (i+1) 2 false) (.sl 7 0 (i+1) 2 false))),(3,.cells none false [iV d.hand,iV d.flat,qcv d,qdg d,qd8 d,.isl L 8 false G,.mp 2]),(1,.cells none false bnd0)]++([(5,.cells none false (flatG 2 (rngC lo0 hi0) (i+1)))]++([(6,.cells none false (flatG 2 (rngC lo1 hi1) (i+1)))]++[(7,.cells none false (flatG 2 (rngC lo2 hi2) (i+1)))])),8⟩
    rw[←hG0,←hG1,←hG2]
    refine SW.qab tok hO (by cbv <;> rfl) (by trivial) ?_
    refine SW.seq (SW.qa6 (by cbv <;> rfl) (fun h=>SW.skip ?_) (fun h=>?_))
    · have hlt:i+1<d.nw:=by
        have:((i+1:Nat):Int)<(d.nw:Int):=by subst hO;simpa[std] using h
        omega
      obtain⟨M,c,HW⟩:=hw (i+1) hlt
      have k61:=fun {st:St}{mid bid:Nat}{fm:Option Nat}{ro:Bool}(h1:st.h.get mid=some (.map M c))(h2:st.h.get bid=some (.cells fm ro [.mp mid]))=>HW.e61 h1 h2
      have k62:=fun {st:St}{mid bid:Nat}{fm:Option Nat}{ro:Bool}(h1:st.h.get mid=some (.map M c))(h2:st.h.get bid=some (.cells fm ro [.mp mid]))=>HW.e62 h1 h2
      have k63:=fun {st:St}{mid bid:Nat}{fm:Option Nat}{ro:Bool}(h1:st.h.get mid=some (.map M c))(h2:st.h.get bid=some (.cells fm ro [.mp mid]))=>HW.e63 h1 h2
      have khad:=HW.had
      obtain⟨a0,ha0⟩:∃ x,lo0 (i+1)=x:=⟨_,rfl⟩
      obtain⟨b0,hb0⟩:∃ x,hi0 (i+1)=x:=⟨_,rfl⟩
      obtain⟨a1,ha1⟩:∃ x,lo1 (i+1)=x:=⟨_,rfl⟩
      obtain⟨b1,hb1⟩:∃ x,hi1 (i+1)=x:=⟨_,rfl⟩
      obtain⟨a2,ha2⟩:∃ x,lo2 (i+1)=x:=⟨_,rfl⟩
      obtain⟨b2,hb2⟩:∃ x,hi2 (i+1)=x:=⟨_,rfl⟩
      rw[ha0,hb0] at k61
      rw[ha1,hb1] at k62
      rw[ha2,hb2] at k63
      refine SW.seq (SW.block ?_)
      refine SW.qab tok hO (by cbv <;> rfl) (by trivial) ?_
      refine SW.seq (SW.runN tok hO 2 (by cbv <;> rfl) (by trivial) ?_)
      refine qac.qdu en58 (khad _) (by cbv <;> rfl) fun v1 st' hk=>?_
      obtain⟨rfl,rfl⟩:=hk
      refine qac.run tok hO (by cbv <;> rfl) (by trivial) ?_
      refine SW.qbf tok mixed hO (by rfl) (by cbv <;> rfl) (by trivial) ?_
      refine AnyE.many [3] (by cbv <;> rfl) (by rfl) ⟨?_,trivial⟩
      refine qd9.qr3 en60 (qk9 8 _) (by cbv <;> rfl) (by cbv <;> rfl) fun r st' hk=>?_
      obtain⟨rfl,rfl⟩:=hk
      refine⟨(by repeat (first | exact trivial | refine And.intro (by first | exact qby hO (by cbv <;> rfl) (by trivial) | (cbv <;> rfl)) ?_)),?_⟩
      refine AnyE.run tok hO (by rfl) (by cbv <;> rfl) (by trivial) ?_
      refine AnyE.qdu en59 (k61 rfl rfl) (by cbv <;> rfl) (by cbv <;> rfl) ?_
      refine AnyE.run tok hO (by rfl) (by cbv <;> rfl) (by trivial) ?_
      refine AnyE.qey tok hO (by cbv <;> rfl) (by cbv <;> rfl) (by trivial) ?_ ?_
      · exact(by repeat (first | exact trivial | refine And.intro (by first | exact qby hO (by cbv <;> rfl) (by trivial) | (cbv <;> rfl)) ?_))
      refine AnyE.run tok hO (by rfl) (by cbv <;> rfl) (by trivial) ?_
      refine AnyE.qeh (g:=rngC lo0 hi0) (len:=i+1) tok (by cbv <;> rfl) (by cbv <;> rfl) (by rfl) (by rfl) hG0 (by kernel_rfl) (by rfl) (by rfl) (by omega) fun H0 hH0=>?_
      refine AnyE.run tok hO (by rfl) (by cbv <;> rfl) (by trivial) ?_
      refine AnyE.eff tok hO (by cbv <;> rfl) (by cbv <;> rfl) (by trivial) ?_
      refine AnyE.done (by rfl) ?_
      refine SW.qbf tok mixed hO (by rfl) (by cbv <;> rfl) (by trivial) ?_
      refine AnyE.many [3] (by cbv <;> rfl) (by rfl) ⟨?_,trivial⟩
      refine qd9.qr3 en60 (qk9 8 _) (by cbv <;> rfl) (by cbv <;> rfl) fun r st' hk=>?_
      obtain⟨rfl,rfl⟩:=hk
      refine⟨(by repeat (first | exact trivial | refine And.intro (by first | exact qby hO (by cbv <;> rfl) (by trivial) | (cbv <;> rfl)) ?_)),?_⟩
      refine AnyE.run tok hO (by rfl) (by cbv <;> rfl) (by trivial) ?_
      refine AnyE.qdu en59 (k62 rfl rfl) (by cbv <;> rfl) (by cbv <;> rfl) ?_
      refine AnyE.run tok hO (by rfl) (by cbv <;> rfl) (by trivial) ?_
      refine AnyE.qey tok hO (by cbv <;> rfl) (by cbv <;> rfl) (by trivial) ?_ ?_
      · exact(by repeat (first | exact trivial | refine And.intro (by first | exact qby hO (by cbv <;> rfl) (by trivial) | (cbv <;> rfl)) ?_))
      refine AnyE.run tok hO (by rfl) (by cbv <;> rfl) (by trivial) ?_
      refine AnyE.qeh (g:=rngC lo1 hi1) (len:=i+1) tok (by cbv <;> rfl) (by cbv <;> rfl) (by rfl) (by rfl) hG1 (by kernel_rfl) (by rfl) (by rfl) (by omega) fun H1 hH1=>?_
      refine AnyE.run tok hO (by rfl) (by cbv <;> rfl) (by trivial) ?_
      refine AnyE.eff tok hO (by cbv <;> rfl) (by cbv <;> rfl) (by trivial) ?_
      refine AnyE.done (by rfl) ?_
      refine SW.runD tok mixed hO (by rfl) (by cbv <;> rfl) (by trivial) ?_
      refine AnyE.many [3] (by cbv <;> rfl) (by rfl) ⟨?_,trivial⟩
      refine qd9.qr3 en60 (qk9 8 _) (by cbv <;> rfl) (by cbv <;> rfl) fun r st' hk=>?_
      obtain⟨rfl,rfl⟩:=hk
      refine⟨(by repeat (first | exact trivial | refine And.intro (by first | exact qby hO (by cbv <;> rfl) (by trivial) | (cbv <;> rfl)) ?_)),?_⟩
      refine AnyE.run tok hO (by rfl) (by cbv <;> rfl) (by trivial) ?_
      refine AnyE.qdu en59 (k63 rfl rfl) (by cbv <;> rfl) (by cbv <;> rfl) ?_
      refine AnyE.run tok hO (by rfl) (by cbv <;> rfl) (by trivial) ?_
      refine AnyE.qey tok hO (by cbv <;> rfl) (by cbv <;> rfl) (by trivial) ?_ ?_
      · exact(by repeat (first | exact trivial | refine And.intro (by first | exact qby hO (by cbv <;> rfl) (by trivial) | (cbv <;> rfl)) ?_))
      refine AnyE.run tok hO (by rfl) (by cbv <;> rfl) (by trivial) ?_
      refine AnyE.qeh (g:=rngC lo2 hi2) (len:=i+1) tok (by cbv <;> rfl) (by cbv <;> rfl) (by rfl) (by rfl) hG2 (by kernel_rfl) (by rfl) (by rfl) (by omega) fun H2 hH2=>?_
      refine AnyE.run tok hO (by rfl) (by cbv <;> rfl) (by trivial) ?_
      refine AnyE.eff tok hO (by cbv <;> rfl) (by cbv <;> rfl) (by trivial) ?_
      refine AnyE.done (by rfl) ?_
      refine SW.run tok hO (by cbv <;> rfl) (by trivial) ?_
      refine⟨i+1+1,by omega,by omega,tabR [(5,11),(6,14),(7,17)],?_⟩
      refine qbx.tabG F567 F567_inj rfl rfl (by simp) (by rfl) (by show 5≤8;omega) (by rfl) ⟨qaf.ptr (by omega),qaf.ptr (by omega),qaf.ptr (by omega),qaf.closed Below.lit,qaf.inc hO (by omega),trivial⟩
        ⟨⟨by omega,_,rfl,.cells (.cons (qaf.sl (by omega)) (.cons (qaf.sl (by omega)) (.cons (qaf.sl (by omega)) (.cons (qaf.closed Below.lit) (.cons (qaf.closed Below.lit) (.cons (qaf.closed Below.lit) (.cons (qaf.closed Below.lit) (.cons (qaf.closed Below.lit) (.cons (qaf.closed Below.lit) (.cons (qaf.closed Below.lit) (.cons (qaf.closed Below.lit) .nil))))))))))),rfl⟩,
          ⟨by omega,_,rfl,.cells (.cons (qaf.closed Below.lit) (.cons (qaf.closed Below.lit) (.cons (qaf.closed (qau d)) (.cons (qaf.closed (qa0 d)) (.cons (qaf.closed (qbl d)) (.cons (qaf.closed hY) (.cons (qaf.mp (by omega)) .nil))))))),rfl⟩,
          ⟨by omega,_,rfl,.cells (qay.closed (qb2.ok ⟨Below.lit,Below.lit,Below.lit,Below.lit,Below.lit,Below.lit,Below.lit,Below.lit,Below.lit,Below.lit,Below.lit,trivial⟩)),rfl⟩,
          ⟨by omega,_,rfl,.cells (qay.of_eq (by rw[hH0,←ha0,←hb0];rfl) (qar (qck lo0 hi0) (i+1+1))),rfl⟩,⟨by omega,_,rfl,.cells (qay.of_eq (by rw[hH1,←ha1,←hb1];rfl) (qar (qck lo1 hi1) (i+1+1))),rfl⟩,⟨by omega,_,rfl,.cells (qay.of_eq (by rw[hH2,←ha2,←hb2];rfl) (qar (qck lo2 hi2) (i+1+1))),rfl⟩,trivial⟩
    · have hge:d.nw=i+1:=by
        have:(d.nw:Int)≤((i+1:Nat):Int):=by subst hO;simpa[std] using h
        omega
      refine SW.exit ?_
      refine SW.seq (SW.runN tok hO 2 (by cbv <;> rfl) (by trivial) ?_)
      refine qac.qdu en64 (qv7 L G _) (by cbv <;> rfl) fun v1 st' hk=>?_
      obtain⟨rfl,rfl⟩:=hk
      refine qac.run tok hO (by cbv <;> rfl) (by trivial) ?_
      refine SW.seq (SW.runN tok hO 1 (by cbv <;> rfl) (by trivial) ?_)
      refine qac.qdu en65 (h66 rfl) (by cbv <;> rfl) fun v1 st' hk=>?_
      obtain⟨rfl,rfl⟩:=hk
      refine qac.run tok hO (by cbv <;> rfl) (by trivial) ?_
      refine SW.seq (SW.runN tok hO 1 (by cbv <;> rfl) (by trivial) ?_)
      refine qac.qdu en65 (h67 rfl) (by cbv <;> rfl) fun v1 st' hk=>?_
      obtain⟨rfl,rfl⟩:=hk
      refine qac.run tok hO (by cbv <;> rfl) (by trivial) ?_
      refine SW.seq (SW.runN tok hO 1 (by cbv <;> rfl) (by trivial) ?_)
      refine qac.qdu en65 (h68 rfl) (by cbv <;> rfl) fun v1 st' hk=>?_
      obtain⟨rfl,rfl⟩:=hk
      refine qac.run tok hO (by cbv <;> rfl) (by trivial) ?_
      refine SW.seq (SW.runN tok hO 1 (by cbv <;> rfl) (by trivial) ?_)
      refine qac.qdu en65 (h69 rfl) (by cbv <;> rfl) fun v1 st' hk=>?_
      obtain⟨rfl,rfl⟩:=hk
      refine qac.run tok hO (by cbv <;> rfl) (by trivial) ?_
      refine SW.qab tok hO (by cbv <;> rfl) (by trivial) ?_
      rw[hge]
      refine SW.ret ⟨_,_,rfl,rfl,?_⟩
      refine Eqv.tup (.cons (Eqv.agg ?_) (.cons (Eqv.of rfl) .nil))
      refine .cons ?_ (.cons ?_ (.cons ?_ (.cons (Eqv.of rfl) (.cons (Eqv.of rfl) (.cons (Eqv.of rfl) (.cons (Eqv.of rfl) (.cons (Eqv.of rfl) (.cons (Eqv.of rfl) (.cons (Eqv.of rfl) (.cons (Eqv.of rfl) .nil))))))))))
      · show Eqv (frz _ _ 3 (.sl 5 0 (i+1) 2 false)) _
        rw[qcc (fm:=none) (G:=G0) rfl rfl (by rw[hG0,qaj];omega)]
        exact Eqv.isl rfl fun j k hj hk=>Eqv.of (by rw[hG0];exact qcn hj hk (by unfold rngC;split <;> rfl))
      · show Eqv (frz _ _ 3 (.sl 6 0 (i+1) 2 false)) _
        rw[qcc (fm:=none) (G:=G1) rfl rfl (by rw[hG1,qaj];omega)]
        exact Eqv.isl rfl fun j k hj hk=>Eqv.of (by rw[hG1];exact qcn hj hk (by unfold rngC;split <;> rfl))
      · show Eqv (frz _ _ 3 (.sl 7 0 (i+1) 2 false)) _
        rw[qcc (fm:=none) (G:=G2) rfl rfl (by rw[hG2,qaj];omega)]
        exact Eqv.isl rfl fun j k hj hk=>Eqv.of (by rw[hG2];exact qcn hj hk (by unfold rngC;split <;> rfl))
end Go.Fz
namespace Go.Fz
open Go.Proofs
set_option maxRecDepth 100000
def mnN (lo hi:Nat→Int):Nat→Int
  | 0=>1
  | i+1=>minI 3000 (qic (mnN lo hi i) (qds (lo i) (hi i)))
theorem qs0 {lo hi:Int}(h1:0≤lo)(h2:lo≤hi)(h3:hi≤5000):qds lo hi=hi - lo+1:=by
  unfold qds
  rw[qiz _ _ (by omega) (by omega),qf7 _ _ (by omega) (by omega)]
theorem mn_pr (lo hi:Nat→Int)(M:Nat)(hr:∀ i,i<M→0≤lo i∧lo i≤hi i∧hi i≤5000):∀ i,i≤M→(1≤mnN lo hi i∧mnN lo hi i≤3000)∧((∀ j,j<i→prN lo hi (j+1)≤2000)→prN lo hi i=mnN lo hi i∧mnN lo hi i≤2000)∧((∃ j,j<i∧2000<prN lo hi (j+1))→2000<mnN lo hi i)
  | 0,_=>⟨⟨by simp[mnN],by simp[mnN]⟩,fun _=>⟨rfl,by simp[mnN]⟩,fun⟨j,hj,_⟩=>absurd hj (Nat.not_lt_zero j)⟩
  | i+1,hi'=>by
    obtain⟨⟨a1,a2⟩,ih1,ih2⟩:=mn_pr lo hi M hr i (by omega)
    obtain⟨r1,r2,r3⟩:=hr i (by omega)
    have hs:=qs0 r1 r2 r3
    obtain⟨s,hsd⟩:∃ s,s=qds (lo i) (hi i):=⟨_,rfl⟩
    have hs1:1≤s:=by omega
    have hs2:s≤5001:=by omega
    have em:mnN lo hi (i+1)=minI 3000 (qic (mnN lo hi i) s):=by rw[hsd];rfl
    have ep:prN lo hi (i+1)=qic (prN lo hi i) s:=by rw[hsd];rfl
    have b1:mnN lo hi i≤mnN lo hi i*s:=by
      have:=Int.mul_le_mul_of_nonneg_left hs1 (show 0≤mnN lo hi i by omega)
      omega
    have b2:mnN lo hi i*s≤3000*5001:=Int.mul_le_mul a2 hs2 (by omega) (by omega)
    have em2:qic (mnN lo hi i) s=mnN lo hi i*s:=qp4 _ _ (by omega) (by omega)
    have emin:mnN lo hi (i+1)=if mnN lo hi i*s<3000 then mnN lo hi i*s else 3000:=by rw[em,em2];rfl
    refine⟨by rw[emin];split <;> omega,fun hall=>?_,fun⟨j,hj,hjp⟩=>?_⟩
    · obtain⟨e1,e2⟩:=ih1 fun j hj=>hall j (by omega)
      have hl:=hall i (by omega)
      rw[ep,e1,em2] at hl
      rw[ep,e1,em2,emin]
      split <;> omega
    · by_cases hex:∃ j,j<i∧2000<prN lo hi (j+1)
      · have:=ih2 hex
        rw[emin];split <;> omega
      · have hall:∀ j,j<i→prN lo hi (j+1)≤2000:=fun j hj=>by
          rcases Int.lt_or_le 2000 (prN lo hi (j+1)) with h | h
          · exact absurd ⟨j,hj,h⟩ hex
          · exact h
        obtain⟨e1,e2⟩:=ih1 hall
        have:j=i:=by
          rcases Nat.lt_succ_iff_lt_or_eq.1 hj with h | h
          · exact absurd ⟨j,h,hjp⟩ hex
          · exact h
        subst this
        rw[ep,e1,em2] at hjp
        rw[emin];split <;> omega
theorem qp7 (d:qai):∀ i,i≤d.nw→d.qrp i=mnN d.ulo d.uhi i
  | 0,_=>rfl
  | i+1,h=>by
    have:i<d.nw:=by omega
    show minI 3000 (qic (d.qrp i) (qds (d.wlo i) (d.whi i)))=minI 3000 (qic (mnN d.ulo d.uhi i) (qds (d.ulo i) (d.uhi i)))
    rw[qp7 d i (by omega)]
    simp only [qai.ulo,qai.uhi,this,if_true]
theorem qp8 (d:qai):∀ j,d.qjs j=mnN d.ulo d.uhi (d.nw+j)
  | 0=>qp7 d d.nw (Nat.le_refl _)
  | j+1=>by
    have:¬ d.nw+j<d.nw:=by omega
    show minI 3000 (qic (d.qjs j) (qds (d.llo j) (d.lhi j)))=minI 3000 (qic (mnN d.ulo d.uhi (d.nw+j)) (qds (d.ulo (d.nw+j)) (d.uhi (d.nw+j))))
    rw[qp8 d j]
    simp only [qai.ulo,qai.uhi,this,if_false,Nat.add_sub_cancel_left]
theorem lot_eq (d:qai)(i:Nat):d.qkq i=d.qn1 i:=by
  have:d.qou (d.lw i)=inB (d.lw i) 0 ((d.nw:Int) - 1):=by
    rw[Bool.eq_iff_iff];simp only [qai.qou,inB,Bool.and_eq_true,decide_eq_true_eq];omega
  unfold qai.qkq qai.qn1
  rw[this]
theorem cnt_eq (d:qai)(h:0<d.nw)(i:Nat):d.qkv i=d.qsd i:=by
  unfold qai.qkv qai.qsd
  generalize qbq (d.clo i) (d.chi i) 0 20000=w
  cases w
  · simp
  · rw[Bool.eq_iff_iff]
    simp only [qai.qou,inB,Bool.and_eq_true,Bool.or_eq_true,decide_eq_true_eq,Bool.and_true,Bool.true_and,and_true,true_and]
    by_cases hk:1<d.ck i
    · simp only [hk,if_true,decide_eq_true_eq];omega
    · simp only [hk,if_false,Bool.and_eq_true,decide_eq_true_eq];omega
theorem qv9 (d:qai):d.qdr=d.qis:=by
  unfold qai.qdr qai.qis
  by_cases h:0<d.nw
  · rw[show qdz d.nl d.qkq=qdz d.nl d.qn1 from qlp fun i _=>lot_eq d i,show qdz d.nc d.qkv=qdz d.nc d.qsd from qlp fun i _=>cnt_eq d h i]
    rfl
  · simp[h]
theorem qq5 (d:qai):d.check=d.qd6:=by
  unfold qai.check qai.qd6
  rw[←qv9]
  by_cases h1:d.qix=true
  · rw[if_pos h1,if_pos h1]
  · rw[if_neg h1,if_neg h1]
    by_cases h2:d.qdr=true
    · rw[if_pos h2,if_pos h2]
      have g:=qho (by simpa using h1) h2
      have hr:∀ i,i<d.nw+d.nl→0≤d.ulo i∧d.ulo i≤d.uhi i∧d.uhi i≤5000:=fun i hi=>by
        unfold qai.ulo qai.uhi
        by_cases hc:i<d.nw
        · have:=g.wom i hc
          simp only [hc,if_true];omega
        · have:=g.lot (i - d.nw) (by omega)
          simp only [hc,if_false];omega
      obtain⟨_,m1,m2⟩:=mn_pr d.ulo d.uhi (d.nw+d.nl) hr (d.nw+d.nl) (Nat.le_refl _)
      rw[qp8]
      by_cases hall:∀ j,j<d.nw+d.nl→prN d.ulo d.uhi (j+1)≤2000
      · have hb:qgb d.ulo d.uhi (d.nw+d.nl)=false:=by
          unfold qgb;rw[qew fun j hj=>by simpa using hall j hj];rfl
        obtain⟨_,e2⟩:=m1 hall
        rw[hb,if_neg (by simp),if_neg (by omega)]
      · have hex:∃ j,j<d.nw+d.nl∧2000<prN d.ulo d.uhi (j+1):=by
          apply Classical.byContradiction
          intro hn
          refine hall fun j hj=>?_
          rcases Int.lt_or_le 2000 (prN d.ulo d.uhi (j+1)) with h | h
          · exact absurd ⟨j,hj,h⟩ hn
          · exact h
        have hb:qgb d.ulo d.uhi (d.nw+d.nl)=true:=by
          obtain⟨j,hj,hp⟩:=hex
          unfold qgb;rw[qf6 (i:=j) hj (by simpa using hp)];rfl
        rw[hb,if_pos rfl,if_pos (m2 hex)]
    · rw[if_neg h2,if_neg h2]
theorem qjg {d:qai}{t:qlq}(hst:∀ i,i<d.nl→0≤t.st i∧t.st i≤5000)(w:Int):∀ j,j≤d.nl→j≤4→0≤stemN d t.st w j∧stemN d t.st w j≤5000*j
  | 0,_,_=>by simp[stemN]
  | j+1,h,h4=>by
    obtain⟨h1,h2⟩:=qjg hst w j (by omega) (by omega)
    have:=hst j (by omega)
    show 0≤(if d.lw j=w then qin (stemN d t.st w j) (t.st j) else stemN d t.st w j)∧(if d.lw j=w then qin (stemN d t.st w j) (t.st j) else stemN d t.st w j)≤5000*((j+1:Nat):Int)
    split
    · rw[qf7 _ _ (by omega) (by omega)];omega
    · omega
end Go.Fz
namespace Go.Fz
open Go.Proofs
set_option maxRecDepth 100000
def qai.qh2 (d:qai):Bool:=decide (d.nw≤6)&&decide (d.nl≤6)&&decide (d.nc≤7)&&(decide (d.qd6≠0)||decide (d.qjs d.nl≤200))
set_option maxHeartbeats 4000000 in
theorem thin_ok (d:qai):Pure Try.prog 16 [qdp d] (.sb d.qh2):=by
  obtain⟨O,hO⟩:∃ O:Ar,O=std:=⟨_,rfl⟩
  refine qad tok 3 Try.func16 en16 rfl ⟨qal d,trivial⟩ Below.sb ?_
  refine SW.qab tok hO (by cbv <;> rfl) (by trivial) ?_
  refine SW.qab tok hO (by cbv <;> rfl) (by trivial) ?_
  refine qac.qbg (by cbv <;> rfl) (fun h1=>?_) (fun h1=>?_) <;> refine qac.run tok hO (by cbv <;> rfl) (by trivial) ?_
  rotate_left
  · have:¬ (d.nw:Int)≤6:=by subst hO;simpa[std] using h1
    refine SW.ret ⟨_,_,rfl,rfl,Eqv.bool ?_⟩
    have:¬ d.nw≤6:=by omega
    simp[qai.qh2,this]
  have k1':(d.nw:Int)≤6:=by subst hO;simpa[std] using h1
  have k1:d.nw≤6:=by omega
  refine qac.qbg (by cbv <;> rfl) (fun h2=>?_) (fun h2=>?_) <;> refine qac.run tok hO (by cbv <;> rfl) (by trivial) ?_
  rotate_left
  · have:¬ (d.nl:Int)≤6:=by subst hO;simpa[std] using h2
    refine SW.ret ⟨_,_,rfl,rfl,Eqv.bool ?_⟩
    have:¬ d.nl≤6:=by omega
    simp[qai.qh2,this]
  have k2':(d.nl:Int)≤6:=by subst hO;simpa[std] using h2
  have k2:d.nl≤6:=by omega
  refine qac.qbg (by cbv <;> rfl) (fun h3=>?_) (fun h3=>?_) <;> refine qac.run tok hO (by cbv <;> rfl) (by trivial) ?_
  rotate_left
  · have:¬ (d.nc:Int)≤7:=by subst hO;simpa[std] using h3
    refine SW.ret ⟨_,_,rfl,rfl,Eqv.bool ?_⟩
    have:¬ d.nc≤7:=by omega
    simp[qai.qh2,this]
  have k3':(d.nc:Int)≤7:=by subst hO;simpa[std] using h3
  have k3:d.nc≤7:=by omega
  have hs:d.small:=⟨by omega,by omega,by omega⟩
  refine qac.qo5 (qqx d hs) (by cbv <;> rfl) fun e he=>?_
  refine qac.run tok hO (by cbv <;> rfl) (by trivial) ?_
  refine qac.qbg (by cbv <;> rfl) (fun h4=>?_) (fun h4=>?_) <;> refine qac.run tok hO (by cbv <;> rfl) (by trivial) ?_
  · have:d.qd6≠0:=by subst hO;rw[←he];simpa[std] using h4
    refine SW.ret ⟨_,_,rfl,rfl,Eqv.bool ?_⟩
    simp[qai.qh2,this,k1,k2,k3]
  · have h5:¬ d.qd6≠0:=by subst hO;rw[←he];simpa[std] using h4
    refine qac.qo5 (qug d hs) (by cbv <;> rfl) fun m hm=>?_
    refine qac.run tok hO (by cbv <;> rfl) (by trivial) ?_
    refine SW.ret ⟨_,_,rfl,rfl,Eqv.sb ?_⟩
    subst hO
    simp[qai.qh2,k1,k2,k3,h5,std,←hm]
def qai.qfm (d:qai):Bool:=d.qh2&&decide (d.qd6=0)
theorem qrh {d:qai}(h:d.qh2=true):d.nw≤6∧d.nl≤6∧d.nc≤7:=by
  simp only [qai.qh2,Bool.and_eq_true,decide_eq_true_eq] at h;exact⟨h.1.1.1,h.1.1.2,h.1.2⟩
theorem ready_ok (d:qai):Pure Try.prog 41 [qdp d] (.sb d.qfm):=by
  obtain⟨O,hO⟩:∃ O:Ar,O=std:=⟨_,rfl⟩
  have call:=thin_ok d
  have hr:d.qfm=(d.qh2&&decide (d.qd6=0)):=rfl
  have hsm:d.qh2=true→d.small:=fun h=>by have:=qrh h;exact⟨by omega,by omega,by omega⟩
  generalize d.qh2=b at call hr hsm
  rw[hr]
  refine qad tok 3 Try.func41 en41 rfl ⟨qal d,trivial⟩ Below.sb ?_
  refine SW.qab tok hO (by cbv <;> rfl) (by trivial) ?_
  refine SW.qab tok hO (by cbv <;> rfl) (by trivial) ?_
  refine qac.qas call (by cbv <;> rfl) ?_
  refine qac.run tok hO (by cbv <;> rfl) (by trivial) ?_
  refine qac.qbg (by cbv <;> rfl) (fun h1=>?_) (fun h1=>?_) <;> refine qac.run tok hO (by cbv <;> rfl) (by trivial) ?_
  · subst h1
    refine qac.qo5 (qqx d (hsm rfl)) (by cbv <;> rfl) fun e he=>?_
    refine qac.run tok hO (by cbv <;> rfl) (by trivial) ?_
    refine SW.ret ⟨_,_,rfl,rfl,Eqv.sb ?_⟩
    rw[←he];subst hO;simp[std];rfl
  · subst h1
    exact SW.ret ⟨_,_,rfl,rfl,Eqv.bool rfl⟩
theorem qrm {d:qai}(h:d.qfm=true):d.Good∧d.qjs d.nl≤200:=by
  simp only [qai.qfm,Bool.and_eq_true,decide_eq_true_eq] at h
  obtain⟨h1,h2⟩:=h
  refine⟨qb0 ((qq5 d).trans h2),?_⟩
  simp only [qai.qh2,Bool.and_eq_true,Bool.or_eq_true,decide_eq_true_eq] at h1
  rcases h1.2 with h | h
  · exact absurd h2 h
  · exact h
end Go.Fz
namespace Go.Fz
open Go.Proofs
set_option maxRecDepth 100000
def mnF (V:Nat→Int)(L:Nat):Int:=leN (V 0) (fun i=>V (i+1)) (L - 1)
def mxF (V:Nat→Int)(L:Nat):Int:=grN (V 0) (fun i=>V (i+1)) (L - 1)
theorem mnF_le {V:Nat→Int}{L i:Nat}(h:i<L):mnF V L≤V i:=by
  obtain⟨⟨h1,h2⟩,_⟩:=qnj (V 0) (fun i=>V (i+1)) (L - 1)
  cases i with
  | zero=>exact h1
  | succ i=>exact h2 i (by omega)
theorem qt8 {V:Nat→Int}{L:Nat}(h:0<L):∃ i,i<L∧V i=mnF V L:=by
  obtain⟨_,h3⟩:=qnj (V 0) (fun i=>V (i+1)) (L - 1)
  rcases h3 with h3 | ⟨i,hi,h3⟩
  · exact⟨0,h,h3.symm⟩
  · exact⟨i+1,by omega,h3.symm⟩
theorem mxF_ge {V:Nat→Int}{L i:Nat}(h:i<L):V i≤mxF V L:=by
  obtain⟨⟨h1,h2⟩,_⟩:=qnm (V 0) (fun i=>V (i+1)) (L - 1)
  cases i with
  | zero=>exact h1
  | succ i=>exact h2 i (by omega)
theorem qt7 {V:Nat→Int}{L:Nat}(h:0<L):∃ i,i<L∧V i=mxF V L:=by
  obtain⟨_,h3⟩:=qnm (V 0) (fun i=>V (i+1)) (L - 1)
  rcases h3 with h3 | ⟨i,hi,h3⟩
  · exact⟨0,h,h3.symm⟩
  · exact⟨i+1,by omega,h3.symm⟩
theorem qu7 (g:FuncId)(val:PK→Int)(K:Nat→PK)(L:Nat)(h0:0<L)(hL:L<100000)(V:Nat→Int)(hV:∀ j,j<L→val (K j)=V j)(hof:∀ j,j<L→Pure Try.prog g [pkV (K j)] (iV (val (K j)))){st:St}{mid bid:Nat}{fm:Option Nat}{ro:Bool}
    (hm:st.h.get mid=some (.map (qcp pkV (pkP K L).1) (pkP K L).2))(hc:st.h.get bid=some (.cells fm ro [.mp mid])) :
    qax Try.prog 59 [.fn (.func 99) [] [.ptr bid 0],.fn (.func g) [] []] st (fun v st'=>v=qc8 (mnF V L) (mxF V L)∧st'=st):=by
  have hmem:∀ p∈(pkP K L).1,∃ j,j<L∧K j=p.1:=fun p hp=>(qoe K p.1 L).1 (List.mem_map.2 ⟨p,hp,rfl⟩)
  have hcov:∀ j,j<L→∃ p∈(pkP K L).1,p.1=K j:=fun j hj=>by
    obtain⟨p,hp,e⟩:=List.mem_map.1 ((qoe K (K j) L).2 ⟨j,hj,rfl⟩)
    exact⟨p,hp,e⟩
  have hex:∀ z,(∃ j,j<L∧V j=z)→∃ p∈(pkP K L).1,val p.1=z:=fun z ⟨j,hj,e⟩=>by
    obtain⟨p,hp,e2⟩:=hcov j hj
    exact⟨p,hp,by rw[e2,hV j hj,e]⟩
  refine ends59 g val (pkP K L).1 (pkP K L).2 (qpv K L) (by have:=qto K L;omega) (fun p hp=>?_) (mnF V L) (mxF V L) (hex _ (qt8 h0)) (fun p hp=>?_) (hex _ (qt7 h0)) (fun p hp=>?_) hm hc
  · obtain⟨j,hj,e⟩:=hmem p hp
    rw[←e];exact hof j hj
  · obtain⟨j,hj,e⟩:=hmem p hp
    rw[←e,hV j hj];exact mnF_le hj
  · obtain⟨j,hj,e⟩:=hmem p hp
    rw[←e,hV j hj];exact mxF_ge hj
theorem qv4 (d:qai)(w:Nat)(hw:w<d.nw)(hnl:d.nl<1000)(L:Nat)(h0:0<L)(hL:L<100000)(A B C D:Nat→Nat→Int)(a b c e:Nat→Int)(hin:∀ i,i<L→inK (A i w,stemN d (B i) w d.nl)=true)(hpos:∀ i,i<L→A i w≠0)
    (hC:∀ i,i<L→C i w=qh9 (stemN d (B i) w d.nl) (A i w))(hD:∀ i,i<L→D i w=(stemN d (B i) w d.nl).tmod (A i w)) :
    ∃ M cc,WomanE d (.isl L 8 false (outX d.nw d.nl A B C D a b c e)) (fun w=>mnF (fun i=>A i w) L) (fun w=>mxF (fun i=>A i w) L) (fun w=>mnF (fun i=>C i w) L) (fun w=>mxF (fun i=>C i w) L) (fun w=>mnF (fun i=>D i w) L) (fun w=>mxF (fun i=>D i w) L) w M cc:=by
  obtain⟨K,hK⟩:∃ K:Nat→PK,K=fun i=>toPK (A i w,stemN d (B i) w d.nl):=⟨_,rfl⟩
  have hk:∀ i,i<L→(K i).1=(A i w,stemN d (B i) w d.nl):=fun i hi=>by rw[hK];exact qwd (hin i hi)
  have hpv:∀ i,i<L→pkV (K i)=qro (A i w) (stemN d (B i) w d.nl):=fun i hi=>by unfold pkV;rw[hk i hi];rfl
  refine⟨qcp pkV (pkP K L).1,(pkP K L).2,⟨fun x hx=>?_,fun st=>?_,fun hm hc=>?_,fun hm hc=>?_,fun hm hc=>?_⟩⟩
  · obtain⟨p,_,rfl⟩:=List.mem_map.1 hx
    exact⟨qfo _,Below.lit⟩
  · refine qax.mpArg (fun x=>[.agg [iV d.hand,iV d.flat,qcv d,qdg d,qd8 d,.isl L 8 false (outX d.nw d.nl A B C D a b c e),x],iV w]) (fun φ us h=>?_) (fun mb=>(had_ok d w hw hnl L hL A B C D a b c e mb K hk).call st)
    cases h with
    | cons h1 h2 =>
      obtain⟨vs,rfl,k⟩:=h1.qbd
      cases k with
      | cons k0 k =>
        cases k with
        | cons k1 k =>
          cases k with
          | cons k2 k =>
            cases k with
            | cons k3 k =>
              cases k with
              | cons k4 k =>
                cases k with
                | cons k5 k =>
                  cases k with
                  | cons k6 k =>
                    cases k
                    obtain⟨rfl,_⟩:=k6.qiv
                    exact⟨_,.cons (.agg (.cons k0 (.cons k1 (.cons k2 (.cons k3 (.cons k4 (.cons k5 (.cons (.lit _) .nil)))))))) h2⟩
  · exact qu7 61 (fun p=>p.1.1) K L h0 hL _ (fun j hj=>by rw[hk j hj]) (fun j hj=>by rw[hpv j hj,hk j hj];exact qtz _ _) hm hc
  · exact qu7 62 (fun p=>qh9 p.1.2 p.1.1) K L h0 hL _ (fun j hj=>by rw[hk j hj];exact(hC j hj).symm) (fun j hj=>by rw[hpv j hj,hk j hj];exact qlk _ _ (hpos j hj)) hm hc
  · exact qu7 63 (fun p=>p.1.2.tmod p.1.1) K L h0 hL _ (fun j hj=>by rw[hk j hj];exact(hD j hj).symm) (fun j hj=>by rw[hpv j hj,hk j hj];exact qg0 _ _ (hpos j hj)) hm hc
def qai.tr (d:qai)(i:Nat):qlq:=qc0 d (qga d.seen.outs i)
def qai.oN (d:qai):Nat:=d.seen.outs.length
def qai.bndV (d:qai):AV:=.agg (bndC d.nw (fun w=>mnF (fun i=>(d.tr i).fe w) d.oN) (fun w=>mxF (fun i=>(d.tr i).fe w) d.oN) (fun w=>mnF (fun i=>d.bun (d.tr i) w) d.oN) (fun w=>mxF (fun i=>d.bun (d.tr i) w) d.oN) (fun w=>mnF (fun i=>d.lef (d.tr i) w) d.oN) (fun w=>mxF (fun i=>d.lef (d.tr i) w) d.oN)
  (mnF (fun i=>(d.qbc (d.tr i)).hands) d.oN) (mxF (fun i=>(d.qbc (d.tr i)).hands) d.oN) (mnF (fun i=>(d.qbc (d.tr i)).loose) d.oN) (mxF (fun i=>(d.qbc (d.tr i)).loose) d.oN) (mnF (fun i=>(d.qbc (d.tr i)).flats) d.oN) (mxF (fun i=>(d.qbc (d.tr i)).flats) d.oN) (mnF (fun i=>(d.qbc (d.tr i)).spare) d.oN) (mxF (fun i=>(d.qbc (d.tr i)).spare) d.oN))
theorem nth_mem {l:List (Nat→Int)}{i:Nat}(h:i<l.length):qga l i∈l:=by
  unfold qga
  rw[List.getD_eq_getElem?_getD,List.getElem?_eq_getElem h]
  exact List.getElem_mem h
theorem qsp {d:qai}{i:Nat}(hi:i<d.oN):d.fits (d.tr i)=true:=by
  obtain⟨t,h1,h2,_⟩:=(ql5 d _).1 (nth_mem hi)
  unfold qai.tr
  refine qm7 fun m hm=>?_
  rw[←h2]
  exact qo3 h1 m hm
theorem tr_stem {d:qai}(g:d.Good){t:qlq}(h:d.fits t=true)(w:Int):0≤stemN d t.st w d.nl∧stemN d t.st w d.nl≤20000:=by
  have hl:=g.nl
  have hf:=h
  simp only [qai.fits,Bool.and_eq_true,decide_eq_true_eq,qdz] at hf
  obtain⟨⟨⟨h1,h2⟩,h3⟩,h4⟩:=hf
  have:=qjg (d:=d) (t:=t) (fun i hi=>by
    have h5:=h4 i (by omega)
    have h6:=g.lot i hi
    simp only [inB,Bool.and_eq_true,decide_eq_true_eq] at h5
    omega) w d.nl (Nat.le_refl _) hl
  omega
theorem qsq {d:qai}(g:d.Good){t:qlq}(h:d.fits t=true){w:Nat}(hw:w<d.nw):1≤t.fe w∧t.fe w≤60:=by
  have hf:=h
  simp only [qai.fits,Bool.and_eq_true,decide_eq_true_eq,qdz] at hf
  obtain⟨⟨⟨h1,h2⟩,h3⟩,h4⟩:=hf
  have h5:=h3 w (by omega)
  have h6:=g.wom w hw
  simp only [inB,Bool.and_eq_true,decide_eq_true_eq] at h5
  omega
theorem qr5 (d:qai)(hs:d.small)(hc:d.check=0)(hne:d.seen.outs≠[]):Pure Try.prog 18 [qdp d] (.tup [d.bndV,iV 0]):=by
  have g:=qb0 hc
  have hlen:=qrv d hc
  have hnl:=g.nl
  cases ho:d.seen.outs with
  | nil=>exact absurd ho hne
  | cons f l =>
    have e2:=open_ok d hs hc f l ho
    have hW:qn3 d (f::l)=fun k=>.agg [iV d.hand,iV d.flat,qcv d,qdg d,qd8 d,.isl (l.length+1) 8 false (qkn d (f::l)),.mp k]:=rfl
    rw[hW,outG_X,←ho] at e2
    have hN:l.length+1=d.oN:=by show _=d.seen.outs.length;rw[ho];rfl
    rw[hN] at e2
    have h0:0<d.oN:=by omega
    have hL:d.oN<100000:=by have:d.oN≤2000:=hlen;omega
    have ht:∀ g0 (V:Nat→Int),(∀ i,i<d.oN→Pure Try.prog g0 [.agg [qap d.nw false (fun j=>qga d.seen.outs i j),qap d.nl false (fun j=>qga d.seen.outs i (d.nw+j)),qap d.nw false (d.bun (qc0 d (qga d.seen.outs i))),qap d.nw false (d.lef (qc0 d (qga d.seen.outs i))),iV (d.qbc (qc0 d (qga d.seen.outs i))).hands,iV (d.qbc (qc0 d (qga d.seen.outs i))).loose,iV (d.qbc (qc0 d (qga d.seen.outs i))).flats,iV (d.qbc (qc0 d (qga d.seen.outs i))).spare]] (iV (V i))) →
        qnz (.isl d.oN 8 false (outX d.nw d.nl (fun i=>qga d.seen.outs i) (fun i j=>qga d.seen.outs i (d.nw+j)) (fun i=>d.bun (qc0 d (qga d.seen.outs i))) (fun i=>d.lef (qc0 d (qga d.seen.outs i)))
          (fun i=>(d.qbc (qc0 d (qga d.seen.outs i))).hands) (fun i=>(d.qbc (qc0 d (qga d.seen.outs i))).loose) (fun i=>(d.qbc (qc0 d (qga d.seen.outs i))).flats) (fun i=>(d.qbc (qc0 d (qga d.seen.outs i))).spare))) g0 (mnF V d.oN) (mxF V d.oN):=fun g0 V hof=>fun {st bid fm ro} hg =>
      ends65 g0 d.nw d.nl _ _ _ _ _ _ _ _ d.oN h0 hL V hof (mnF V d.oN) (mxF V d.oN) (qt8 h0) (fun i hi=>mnF_le hi) (qt7 h0) (fun i hi=>mxF_ge hi) hg
    refine qo6 d g.pos g.nw d.oN _ (qet _ _ _ _ _ _ _ _ _ _ _) _ _ _ _ _ _ _ _ _ _ _ _ _ _ _ _ e2 (fun w hw=>?_) (ht 66 _ fun i hi=>of66_ok _ _ _ _ _ _ _ _ _ _) (ht 67 _ fun i hi=>of67_ok _ _ _ _ _ _ _ _ _ _) (ht 68 _ fun i hi=>of68_ok _ _ _ _ _ _ _ _ _ _) (ht 69 _ fun i hi=>of69_ok _ _ _ _ _ _ _ _ _ _)
    refine qv4 d w hw (by omega) d.oN h0 hL _ _ _ _ _ _ _ _ (fun i hi=>?_) (fun i hi=>?_) (fun i hi=>rfl) (fun i hi=>rfl)
    · have h1:=qsq g (qsp hi) hw
      have h2:=tr_stem g (qsp hi) w
      have h1':1≤qga d.seen.outs i w∧qga d.seen.outs i w≤60:=h1
      have h2':0≤stemN d (fun j=>qga d.seen.outs i (d.nw+j)) w d.nl∧stemN d (fun j=>qga d.seen.outs i (d.nw+j)) w d.nl≤20000:=h2
      simp only [inK,Bool.and_eq_true,decide_eq_true_eq]
      omega
    · have h1:1≤qga d.seen.outs i w∧qga d.seen.outs i w≤60:=qsq g (qsp hi) hw
      omega
set_option maxHeartbeats 8000000 in
theorem qr4 (d:qai)(e:Int)(he:e≠0)(h:Pure Try.prog 57 [qdp d,.lit (.bool true)] (.tup [.agg stZ,iV e])):Pure Try.prog 18 [qdp d] (.tup [.agg bnd0,iV e]):=by
  obtain⟨O,hO⟩:∃ O:Ar,O=std:=⟨_,rfl⟩
  refine qad tok 3 Try.func18 en18 rfl ⟨qal d,trivial⟩ (Below.tup (qb2.ok ⟨Below.agg (qb2.ok ⟨Below.lit,Below.lit,Below.lit,Below.lit,Below.lit,Below.lit,Below.lit,Below.lit,Below.lit,Below.lit,Below.lit,trivial⟩),Below.lit,trivial⟩)) ?_
  refine SW.qab tok hO (by cbv <;> rfl) (by trivial) ?_
  refine SW.seq (SW.runN tok hO 1 (by cbv <;> rfl) (by trivial) ?_)
  refine qac.qas h (by cbv <;> rfl) ?_
  refine qac.run tok hO (by cbv <;> rfl) (by trivial) ?_
  refine SW.seq ?_
  refine SW.qab tok hO (by cbv <;> rfl) (by trivial) ?_
  refine SW.qa6 (by cbv <;> rfl) (fun h1=>?_) (fun h1=>?_)
  · refine SW.qab tok hO (by cbv <;> rfl) (by trivial) ?_
    exact SW.ret ⟨_,_,rfl,rfl,Eqv.of rfl⟩
  · exfalso
    subst hO;simp[std] at h1;exact he h1
end Go.Fz
namespace Go.Fz
open Go.Proofs
set_option maxRecDepth 100000
def qr6 (bits:Int)(i:Nat):Bool:=std.cmp .eql (std.bin .rem .i64 (std.bin .shr .i64 bits (std.conv .u64 (Int.ofNat i))) 2) 1
def qf9 (bits:Int):Nat→List Nat
  | 0=>[]
  | i+1=>if qr6 bits i then qf9 bits i++[i] else qf9 bits i
theorem ql4 (bits:Int):∀ i,(qf9 bits i).length≤i
  | 0=>Nat.le_refl _
  | i+1=>by
    have:=ql4 bits i
    show(if qr6 bits i then qf9 bits i++[i] else qf9 bits i).length≤i+1
    split
    · rw[List.length_append,List.length_singleton];omega
    · omega
theorem qi1 (bits:Int)(j:Nat):∀ i,j∈qf9 bits i↔j<i∧qr6 bits j=true
  | 0=>⟨fun h=>(by cases h),fun h=>absurd h.1 (Nat.not_lt_zero _)⟩
  | i+1=>by
    have ih:=qi1 bits j i
    show j∈(if qr6 bits i then qf9 bits i++[i] else qf9 bits i)↔_
    by_cases hb:qr6 bits i=true
    · rw[if_pos hb,List.mem_append,ih,List.mem_singleton]
      constructor
      · rintro(⟨h1,h2⟩ | rfl)
        · exact⟨by omega,h2⟩
        · exact⟨by omega,hb⟩
      · rintro⟨h1,h2⟩
        by_cases e:j=i
        · exact .inr e
        · exact .inl ⟨by omega,h2⟩
    · rw[if_neg hb,ih]
      constructor
      · exact fun⟨h1,h2⟩=>⟨by omega,h2⟩
      · rintro⟨h1,h2⟩
        by_cases e:j=i
        · subst e;exact absurd h2 hb
        · exact⟨by omega,h2⟩
def qai.qdn (d:qai)(bits:Int):qai:={ d with
  nc:=(qf9 bits d.nc).length
  ck:=fun j=>d.ck ((qf9 bits d.nc).getD j 0)
  cw:=fun j=>d.cw ((qf9 bits d.nc).getD j 0)
  clo:=fun j=>d.clo ((qf9 bits d.nc).getD j 0)
  chi:=fun j=>d.chi ((qf9 bits d.nc).getD j 0) }
def qrk (d:qai)(l:List Nat)(j k:Nat):AV:=cntC d (l.getD j 0) k
theorem qh4 (d:qai)(l:List Nat)(j k:Nat):Below 0 (qrk d l j k):=qik _ _ _
theorem qs5 (d:qai)(l:List Nat)(i:Nat):flatG 4 (qrk d l) l.length++[iV (d.ck i),iV (d.cw i),iV (d.clo i),iV (d.chi i)]=flatG 4 (qrk d (l++[i])) (l.length+1):=by
  have h1:flatG 4 (qrk d (l++[i])) l.length=flatG 4 (qrk d l) l.length:=qd5 fun j k hj=>by
    unfold qrk
    rw[List.getD_eq_getElem?_getD,List.getElem?_append_left hj,←List.getD_eq_getElem?_getD]
  have h2:(l++[i]).getD l.length 0=i:=by simp
  show _=flatG 4 (qrk d (l++[i])) l.length++[cntC d ((l++[i]).getD l.length 0) 0,cntC d ((l++[i]).getD l.length 0) 1,cntC d ((l++[i]).getD l.length 0) 2,cntC d ((l++[i]).getD l.length 0) 3]
  rw[h1,h2];rfl
def someS (d:qai)(X:AV):Hp:=[(2,.cells none false [iV d.hand,iV d.flat,qcv d,qdg d,X]),(1,.cells none false day0),(0,.cells none false (qgc d))]
set_option maxHeartbeats 16000000 in
theorem qsy (d:qai)(bits:Int)(hn:d.nc≤7):Pure Try.prog 52 [qdp d,iV bits] (qdp (d.qdn bits)):=by
  obtain⟨O,hO⟩:∃ O:Ar,O=std:=⟨_,rfl⟩
  have hnat:∀ i:Nat,O.nat (Int.ofNat i)=i:=fun i=>by subst hO;rfl
  have hday0:∀ x∈day0,Below 0 x:=qcb
  refine qad tok 4 Try.func52 en52 rfl ⟨qal d,Below.lit,trivial⟩ (qal _) ?_
  refine SW.qab tok hO (by cbv <;> rfl) (by trivial) ?_
  refine SW.qab tok hO (by cbv <;> rfl) (by trivial) ?_
  refine SW.qab tok hO (by cbv <;> rfl) (by trivial) ?_
  refine SW.seq ?_
  refine SW.qab tok hO (by cbv <;> rfl) (by trivial) ?_
  refine(SW.block (SW.qmn (fun i:Nat=>⟨⟨33,getT [(1,iV bits),(2,.ptr 0 0),(4,.ptr 1 0),(5,.ptr 2 0),(6,iV i)]⟩,[]⟩) (fun i=>⟨someS d (slG 3 4 (qf9 bits i).length)++objG 3 4 (qrk d (qf9 bits i)) (qf9 bits i).length,4⟩) (fun i=>d.nc - i) (fun i=>i≤d.nc) 0 (Nat.zero_le _) (qek 3 3) ?_ fun i hi=>?_))
  · exact qbx.up rfl rfl (by simp) (Nat.le_refl _) (.inl rfl) (by show 3≤4;omega) ⟨qaf.closed Below.lit,qaf.ptr (by omega),qaf.ptr (by omega),qaf.ptr (by omega),qaf.closed Below.lit,trivial⟩
      ⟨⟨by omega,_,rfl,.cells (.cons (qaf.closed Below.lit) (.cons (qaf.closed Below.lit) (.cons (qaf.closed (qau d)) (.cons (qaf.closed (qa0 d)) (.cons (qaf.closed Below.lit) .nil))))),.inr rfl⟩,⟨by omega,_,rfl,.cells (qay.closed hday0),.inr rfl⟩,⟨by omega,_,rfl,.cells (qay.closed (qa4 d)),.inr rfl⟩,trivial⟩ (fun p hp=>by cases hp)
  have hlen:=ql4 bits i
  have hsn:=qs5 d (qf9 bits i) i
  have hsu:qf9 bits (i+1)=if qr6 bits i then qf9 bits i++[i] else qf9 bits i:=rfl
  cases hm:(qf9 bits i).length with
  | zero =>
    have hl0:qf9 bits i=[]:=List.length_eq_zero_iff.1 hm
    show SW _ _ _ _ _ ⟨someS d nl3++[],4⟩
    refine SW.seq ?_
    refine SW.qab tok hO (by cbv <;> rfl) (by trivial) ?_
    refine SW.qa6 (by cbv <;> rfl) (fun h=>SW.skip ?_) (fun h=>SW.exit ?_)
    · have hlt:i<d.nc:=by subst hO;simpa[std] using h
      have hi0:(0:Int)≤Int.ofNat i:=Int.natCast_nonneg i
      refine SW.seq (SW.block ?_)
      have hc0:0≤O.conv .u64 (Int.ofNat i):=by
        subst hO
        show 0≤wrp .u64 (Int.ofNat i)
        rw[qir (by simp only [IntKind.lo];omega) (by simp only [IntKind.hi];have:(i:Int)≤7:=(by omega);show(i:Int)≤_;omega)]
        exact hi0
      refine SW.qab tok hO (by cbv <;> rfl) (by first | exact⟨hc0,(by decide:(2:Int)≠0)⟩ | exact⟨(by decide:(2:Int)≠0),hc0⟩) ?_
      refine SW.qa6 (by cbv <;> rfl) (fun h2=>?_) (fun h2=>SW.skip ?_)
      · have hb:qr6 bits i=true:=by subst hO;exact h2
        rw[if_pos hb] at hsu
        rw[hl0] at hsn hsu
        refine SW.runD tok mixed hO (by rfl) (by cbv <;> rfl) ?_ ?_
        · exact⟨hi0,Int.ofNat_lt.2 hlt⟩
        refine AnyE.qey tok hO (by cbv <;> rfl) (by cbv <;> rfl) (by trivial) ?_ ?_
        · exact(by repeat (first | exact trivial | refine And.intro (by first | exact qby hO (by cbv <;> rfl) (by trivial) | (cbv <;> rfl)) ?_))
        refine AnyE.run tok hO (by rfl) (by cbv <;> rfl) (by trivial) ?_
        refine AnyE.qev tok (by cbv <;> rfl) (by cbv <;> rfl) (by rfl) (by kernel_rfl) (by rfl) (by rfl) ?_
        refine AnyE.run tok hO (by rfl) (by cbv <;> rfl) (by trivial) ?_
        refine AnyE.eff tok hO (by cbv <;> rfl) (by cbv <;> rfl) (by trivial) ?_
        refine AnyE.done (by rfl) ?_
        refine SW.run tok hO (by cbv <;> rfl) (by trivial) ?_
        refine⟨i+1,by omega,by omega,qek 3 5,?_⟩
        rw[hsu]
        refine qbx.up rfl rfl (by simp) (Nat.le_refl _) (.inr (by omega)) (by show 3≤4;omega) ⟨qaf.closed Below.lit,qaf.ptr (by omega),qaf.ptr (by omega),qaf.ptr (by omega),qaf.inc hO (by omega),trivial⟩
          ⟨⟨by omega,_,rfl,.cells (.cons (qaf.closed Below.lit) (.cons (qaf.closed Below.lit) (.cons (qaf.closed (qau d)) (.cons (qaf.closed (qa0 d)) (.cons (qaf.sl (by omega)) .nil))))),.inr rfl⟩,⟨by omega,_,rfl,.cells (qay.closed hday0),.inr rfl⟩,⟨by omega,_,rfl,.cells (qay.closed (qa4 d)),.inr rfl⟩,trivial⟩ (fun p hp=>?_)
        obtain rfl:=qcm hp
        exact⟨by omega,_,rfl,.cells (qay.of_eq (by subst hO;exact hsn) (qar (qh4 d _) _)),.inl rfl⟩
      · have hb:qr6 bits i=false:=by subst hO;exact h2
        rw[if_neg (by rw[hb];decide)] at hsu
        refine SW.run tok hO (by cbv <;> rfl) (by trivial) ?_
        refine⟨i+1,by omega,by omega,qek 3 3,?_⟩
        rw[hsu,hm]
        exact qbx.up rfl rfl (by simp) (Nat.le_refl _) (.inl rfl) (by show 3≤4;omega) ⟨qaf.closed Below.lit,qaf.ptr (by omega),qaf.ptr (by omega),qaf.ptr (by omega),qaf.inc hO (by omega),trivial⟩
          ⟨⟨by omega,_,rfl,.cells (.cons (qaf.closed Below.lit) (.cons (qaf.closed Below.lit) (.cons (qaf.closed (qau d)) (.cons (qaf.closed (qa0 d)) (.cons (qaf.closed Below.lit) .nil))))),.inr rfl⟩,⟨by omega,_,rfl,.cells (qay.closed hday0),.inr rfl⟩,⟨by omega,_,rfl,.cells (qay.closed (qa4 d)),.inr rfl⟩,trivial⟩ (fun p hp=>by cases hp)
    · have hge:i=d.nc:=by
        have:d.nc≤i:=by subst hO;simpa[std] using h
        omega
      refine SW.qab tok hO (by cbv <;> rfl) (by trivial) ?_
      refine SW.ret ⟨_,_,rfl,rfl,Eqv.agg (.cons (Eqv.of rfl) (.cons (Eqv.of rfl) (.cons (Eqv.of rfl) (.cons (Eqv.of rfl) (.cons ?_ .nil)))))⟩
      show Eqv nl3 (.isl (qf9 bits d.nc).length 4 false _)
      rw[←hge,hm]
      exact Eqv.nil
  | succ m =>
    obtain⟨G,hG⟩:∃ G,G=flatG 4 (qrk d (qf9 bits i)) (m+1):=⟨_,rfl⟩
    show SW _ _ _ _ _ ⟨someS d (.sl 3 0 (m+1) 4 false)++[(3,.cells none false (flatG 4 (qrk d (qf9 bits i)) (m+1)))],4⟩
    rw[←hG]
    refine SW.seq ?_
    refine SW.qab tok hO (by cbv <;> rfl) (by trivial) ?_
    refine SW.qa6 (by cbv <;> rfl) (fun h=>SW.skip ?_) (fun h=>SW.exit ?_)
    · have hlt:i<d.nc:=by subst hO;simpa[std] using h
      have hi0:(0:Int)≤Int.ofNat i:=Int.natCast_nonneg i
      refine SW.seq (SW.block ?_)
      have hc0:0≤O.conv .u64 (Int.ofNat i):=by
        subst hO
        show 0≤wrp .u64 (Int.ofNat i)
        rw[qir (by simp only [IntKind.lo];omega) (by simp only [IntKind.hi];have:(i:Int)≤7:=(by omega);show(i:Int)≤_;omega)]
        exact hi0
      refine SW.qab tok hO (by cbv <;> rfl) (by first | exact⟨hc0,(by decide:(2:Int)≠0)⟩ | exact⟨(by decide:(2:Int)≠0),hc0⟩) ?_
      refine SW.qa6 (by cbv <;> rfl) (fun h2=>?_) (fun h2=>SW.skip ?_)
      · have hb:qr6 bits i=true:=by subst hO;exact h2
        rw[if_pos hb] at hsu
        rw[hm,←hG] at hsn
        refine SW.runD tok mixed hO (by rfl) (by cbv <;> rfl) ?_ ?_
        · exact⟨hi0,Int.ofNat_lt.2 hlt⟩
        refine AnyE.qey tok hO (by cbv <;> rfl) (by cbv <;> rfl) (by trivial) ?_ ?_
        · exact(by repeat (first | exact trivial | refine And.intro (by first | exact qby hO (by cbv <;> rfl) (by trivial) | (cbv <;> rfl)) ?_))
        refine AnyE.run tok hO (by rfl) (by cbv <;> rfl) (by trivial) ?_
        refine AnyE.qeh (g:=qrk d (qf9 bits i)) (len:=m+1) tok (by cbv <;> rfl) (by cbv <;> rfl) (by rfl) (by rfl) hG (by kernel_rfl) (by rfl) (by rfl) (by omega) fun G' hG'=>?_
        refine AnyE.run tok hO (by rfl) (by cbv <;> rfl) (by trivial) ?_
        refine AnyE.eff tok hO (by cbv <;> rfl) (by cbv <;> rfl) (by trivial) ?_
        refine AnyE.done (by rfl) ?_
        refine SW.run tok hO (by cbv <;> rfl) (by trivial) ?_
        refine⟨i+1,by omega,by omega,qek 3 5,?_⟩
        rw[hsu,List.length_append,List.length_singleton,hm]
        refine qbx.up rfl rfl (by simp) (Nat.le_refl _) (.inr (by omega)) (by show 3≤4;omega) ⟨qaf.closed Below.lit,qaf.ptr (by omega),qaf.ptr (by omega),qaf.ptr (by omega),qaf.inc hO (by omega),trivial⟩
          ⟨⟨by omega,_,rfl,.cells (.cons (qaf.closed Below.lit) (.cons (qaf.closed Below.lit) (.cons (qaf.closed (qau d)) (.cons (qaf.closed (qa0 d)) (.cons (qaf.sl (by omega)) .nil))))),.inr rfl⟩,⟨by omega,_,rfl,.cells (qay.closed hday0),.inr rfl⟩,⟨by omega,_,rfl,.cells (qay.closed (qa4 d)),.inr rfl⟩,trivial⟩ (fun p hp=>?_)
        obtain rfl:=qcm hp
        exact⟨by omega,_,rfl,.cells (qay.of_eq (by rw[hG',←hG];subst hO;exact hsn) (qar (qh4 d _) _)),.inl rfl⟩
      · have hb:qr6 bits i=false:=by subst hO;exact h2
        rw[if_neg (by rw[hb];decide)] at hsu
        refine SW.run tok hO (by cbv <;> rfl) (by trivial) ?_
        refine⟨i+1,by omega,by omega,qek 3 3,?_⟩
        rw[hsu,hm]
        refine qbx.up rfl rfl (by simp) (Nat.le_refl _) (.inl rfl) (by show 3≤4;omega) ⟨qaf.closed Below.lit,qaf.ptr (by omega),qaf.ptr (by omega),qaf.ptr (by omega),qaf.inc hO (by omega),trivial⟩
          ⟨⟨by omega,_,rfl,.cells (.cons (qaf.closed Below.lit) (.cons (qaf.closed Below.lit) (.cons (qaf.closed (qau d)) (.cons (qaf.closed (qa0 d)) (.cons (qaf.sl (by omega)) .nil))))),.inr rfl⟩,⟨by omega,_,rfl,.cells (qay.closed hday0),.inr rfl⟩,⟨by omega,_,rfl,.cells (qay.closed (qa4 d)),.inr rfl⟩,trivial⟩ (fun p hp=>?_)
        obtain rfl:=qcm hp
        exact⟨by omega,_,rfl,.cells (qay.of_eq hG (qar (qh4 d _) _)),.inl rfl⟩
    · have hge:i=d.nc:=by
        have:d.nc≤i:=by subst hO;simpa[std] using h
        omega
      refine SW.qab tok hO (by cbv <;> rfl) (by trivial) ?_
      refine SW.ret ⟨_,_,rfl,rfl,Eqv.agg (.cons (Eqv.of rfl) (.cons (Eqv.of rfl) (.cons (Eqv.of rfl) (.cons (Eqv.of rfl) (.cons ?_ .nil)))))⟩
      show Eqv (frz _ _ 3 (.sl 3 0 (m+1) 4 false)) (.isl (qf9 bits d.nc).length 4 false (cntC (d.qdn bits)))
      rw[qcc (fm:=none) (G:=G) rfl rfl (by rw[hG,qaj];omega),←hge,hm]
      refine Eqv.isl rfl fun j k hj hk=>Eqv.of ?_
      rw[hG,qcn hj hk (by unfold qrk cntC;split <;> rfl)]
      unfold qrk
      rw[hge]
      match k,hk with
      | 0,_ | 1,_ | 2,_ | 3,_=>rfl
end Go.Fz
namespace Go.Fz
open Go.Proofs
set_option maxRecDepth 100000
theorem qtt (d:qai):d.seen.outs≠[]↔∃ t,d.inR t∧qbp d (qea (d.nw+d.nl) t)=qmj:=by
  constructor
  · intro h
    cases ho:d.seen.outs with
    | nil=>exact absurd ho h
    | cons f l =>
      obtain⟨t,h1,h2,h3⟩:=(ql5 d f).1 (by rw[ho];exact List.mem_cons_self)
      exact⟨t,h1,by rw[h2];exact h3⟩
  · rintro⟨t,h1,h2⟩ h
    have:=(ql5 d _).2 ⟨t,h1,rfl,h2⟩
    rw[h] at this;cases this
def qai.okC (d:qai)(f:Nat→Int)(i:Nat):Bool:=d.qgd (d.qbc (qc0 d f)) i
theorem qpf {d:qai}(hn:d.nc≤5)(f:Nat→Int):qbp d f=qmj↔∀ j,j<d.nc→d.okC f j=true:=by
  have hw:qbp d f=(wrM (d.okC f) d.nc 0,wrM (d.okC f) d.nc 1,wrM (d.okC f) d.nc 2,wrM (d.okC f) d.nc 3,wrM (d.okC f) d.nc 4):=rfl
  rw[hw]
  generalize d.okC f=r
  have hm:∀ j,wrM r d.nc j=false↔(j<d.nc→r j=true):=fun j=>by
    unfold wrM
    cases r j <;> simp
  constructor
  · intro h j hj
    simp only [qmj,Prod.mk.injEq] at h
    obtain⟨h0,h1,h2,h3,h4⟩:=h
    have hj5:j<5:=by omega
    match j,hj5 with
    | 0,_=>exact(hm 0).1 h0 hj
    | 1,_=>exact(hm 1).1 h1 hj
    | 2,_=>exact(hm 2).1 h2 hj
    | 3,_=>exact(hm 3).1 h3 hj
    | 4,_=>exact(hm 4).1 h4 hj
  · intro h
    simp only [qmj,Prod.mk.injEq]
    exact⟨(hm 0).2 (h 0),(hm 1).2 (h 1),(hm 2).2 (h 2),(hm 3).2 (h 3),(hm 4).2 (h 4)⟩
theorem qmv {d:qai}(hn:d.nc≤5)(f:Nat→Int)(n:Nat)(h5:n≤5):(n:Int)≤firstM (qbp d f)↔∀ j,j<n→j<d.nc→d.okC f j=true:=by
  have hw:qbp d f=(wrM (d.okC f) d.nc 0,wrM (d.okC f) d.nc 1,wrM (d.okC f) d.nc 2,wrM (d.okC f) d.nc 3,wrM (d.okC f) d.nc 4):=rfl
  rw[hw]
  generalize d.okC f=r
  have hm:∀ j,wrM r d.nc j=false↔(j<d.nc→r j=true):=fun j=>by
    unfold wrM
    cases r j <;> simp
  have key:∀ (b0 b1 b2 b3 b4:Bool)(n:Fin 6),((n.1:Int)≤firstM (b0,b1,b2,b3,b4)↔((0<n.1→b0=false)∧(1<n.1→b1=false)∧(2<n.1→b2=false)∧(3<n.1→b3=false)∧(4<n.1→b4=false))):=by
    intro b0 b1 b2 b3 b4
    cases b0 <;> cases b1 <;> cases b2 <;> cases b3 <;> cases b4 <;> decide
  rw[key _ _ _ _ _ ⟨n,by omega⟩]
  simp only [hm]
  constructor
  · rintro⟨k0,k1,k2,k3,k4⟩ j hj hc
    have hj5:j<5:=by omega
    match j,hj5 with
    | 0,_=>exact k0 hj hc
    | 1,_=>exact k1 hj hc
    | 2,_=>exact k2 hj hc
    | 3,_=>exact k3 hj hc
    | 4,_=>exact k4 hj hc
  · exact fun h=>⟨fun a=>h 0 a,fun a=>h 1 a,fun a=>h 2 a,fun a=>h 3 a,fun a=>h 4 a⟩
theorem qh3 (d:qai)(bits:Int)(st:Nat→Int)(w:Int):∀ n,stemN (d.qdn bits) st w n=stemN d st w n
  | 0=>rfl
  | n+1=>by
    show(if d.lw n=w then qin (stemN (d.qdn bits) st w n) (st n) else stemN (d.qdn bits) st w n)=_
    rw[qh3 d bits st w n];rfl
theorem qri (d:qai)(bits:Int)(t:qlq):(d.qdn bits).qbc t=d.qbc t:=by
  have h1:(d.qdn bits).bun t=d.bun t:=funext fun w=>by unfold qai.bun;rw[qh3]
  have h2:(d.qdn bits).lef t=d.lef t:=funext fun w=>by unfold qai.lef;rw[qh3]
  have h3:(d.qdn bits).all t=d.all t:=by
    unfold qai.all;rw[h1];rfl
  unfold qai.qbc
  rw[h1,h2,h3];rfl
theorem qpz (d:qai)(bits:Int)(f:Nat→Int)(j:Nat):(d.qdn bits).okC f j=d.okC f ((qf9 bits d.nc).getD j 0):=by
  unfold qai.okC
  have:qc0 (d.qdn bits) f=qc0 d f:=rfl
  rw[this,qri];rfl
theorem qgp {d:qai}(hc:d.check=0)(bits:Int):(d.qdn bits).check=0:=by
  have hm:=qil hc
  have hlen:=ql4 bits d.nc
  unfold qai.check at hc ⊢
  have hlong:d.qix=false:=by
    cases h:d.qix with
    | true=>rw[h] at hc;simp at hc
    | false=>rfl
  have hval:d.qdr=true:=by
    cases h:d.qdr with
    | false=>rw[h,hlong] at hc;simp at hc
    | true=>rfl
  have h1:(d.qdn bits).qix=false:=by
    simp only [qai.qix,Bool.or_eq_false_iff,decide_eq_false_iff_not,Nat.not_lt] at hlong ⊢
    refine⟨hlong.1,?_⟩
    show(qf9 bits d.nc).length≤5
    omega
  have h2:(d.qdn bits).qdr=true:=by
    simp only [qai.qdr,Bool.and_eq_true,qdz,decide_eq_true_eq] at hval ⊢
    refine⟨hval.1,fun j hj=>?_⟩
    have hj':j<(qf9 bits d.nc).length:=hj
    have hin:=(qi1 bits ((qf9 bits d.nc).getD j 0) d.nc).1 (by rw[List.getD_eq_getElem?_getD,List.getElem?_eq_getElem hj'];exact List.getElem_mem hj')
    exact hval.2 _ hin.1
  rw[h1,h2]
  have h3:qgb (d.qdn bits).ulo (d.qdn bits).uhi ((d.qdn bits).nw+(d.qdn bits).nl)=qgb d.ulo d.uhi (d.nw+d.nl):=rfl
  rw[h3,hm];rfl
theorem qm9 {d:qai}(hc:d.check=0)(bits:Int):(d.qdn bits).seen.outs≠[]↔∃ t,d.inR t∧∀ i,i<d.nc→qr6 bits i=true→d.okC (qea (d.nw+d.nl) t) i=true:=by
  have hn:=(qb0 (qgp hc bits)).nc
  rw[qtt]
  have h1:∀ t,(d.qdn bits).inR t↔d.inR t:=fun t=>Iff.rfl
  have h2:∀ f,qbp (d.qdn bits) f=qmj↔∀ i,i<d.nc→qr6 bits i=true→d.okC f i=true:=fun f=>by
    rw[qpf hn]
    constructor
    · intro h i hi hb
      obtain⟨j,hj,e⟩:=List.getElem_of_mem ((qi1 bits i d.nc).2 ⟨hi,hb⟩)
      have:=h j hj
      rw[qpz,List.getD_eq_getElem?_getD,List.getElem?_eq_getElem hj,Option.getD_some,e] at this
      exact this
    · intro h j hj
      have hj':j<(qf9 bits d.nc).length:=hj
      have hin:=(qi1 bits ((qf9 bits d.nc).getD j 0) d.nc).1 (by rw[List.getD_eq_getElem?_getD,List.getElem?_eq_getElem hj'];exact List.getElem_mem hj')
      rw[qpz]
      exact h _ hin.1 hin.2
  constructor
  · rintro⟨t,k1,k2⟩;exact⟨t,k1,(h2 _).1 k2⟩
  · rintro⟨t,k1,k2⟩;exact⟨t,k1,(h2 _).2 k2⟩
theorem qkh (d:qai)(hs:d.small)(hc:d.check=0)(hne:d.seen.outs≠[]):∃ (X Y Z:Nat→Nat→AV)(p q r s t u v w:Int),Pure Try.prog 18 [qdp d] (.tup [.agg [.isl d.nw 2 false X,.isl d.nw 2 false Y,.isl d.nw 2 false Z,iV p,iV q,iV r,iV s,iV t,iV u,iV v,iV w],iV 0]) :=
  ⟨_,_,_,_,_,_,_,_,_,_,_,qr5 d hs hc hne⟩
end Go.Fz
