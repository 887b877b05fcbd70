/- Own work of the verifier of watercress: FzB6, FzB7, FzB8. -/
import Derived.Test.YtpefamheopplnaaMb28
set_option linter.unusedVariables false
set_option linter.unusedSimpArgs false
namespace Go.Fz
open Go.Proofs
set_option maxRecDepth 100000
def qpu (r1 m1 r2 m2:Nat)(j:Nat):Nat:=match Nat.beq j r1 with
  | true=>m1
  | false=>match Nat.beq j r2 with
    | true=>m2
    | false=>j
theorem qbx.up2 {n0 r1 m1 r2 m2:Nat}{f1:Fm}{st1:St}{l:List (Nat × AV)}{len:Nat}{dm:List Nat}{hl:Hp}{n2:Nat}(F:Nat→Option Nat)(hF:∀ i j f,F i=some f→F j=some f→i=j)(e1:len=f1.ts.len)(e2:dm=f1.dm)(e3:∀ id∈dm,id<n0)(hr1:n0≤r1)(hr2:n0≤r2)
    (hinj:∀ p∈hl,∀ q∈hl,qpu r1 m1 r2 m2 p.1=qpu r1 m1 r2 m2 q.1→p.1=q.1)(lo:n0≤n2)
    (get:qm5 (fun p=>qaf (qpu r1 m1 r2 m2) n2 p.2 (f1.ts.get p.1)) l)(obj:qm5 (fun p=>p.1<n2∧∃ o1,st1.h.get (qpu r1 m1 r2 m2 p.1)=some o1∧qm3 (qpu r1 m1 r2 m2) n2 p.2 o1∧o1.fam=F p.1) hl) :
    qbx n0 (qpu r1 m1 r2 m2) f1 st1 ⟨⟨len,getT l⟩,dm⟩ ⟨hl,n2⟩:=by
  have ho:=obj.ok
  refine⟨e1,e2,e3,fun j hj=>?_,fun i=>?_,lo,fun id o h=>?_,fun i j oi oj hi hj hij pi pj h1 h2=>⟨fun h=>hij ?_,fun⟨f,k1,k2⟩=>?_⟩⟩
  · unfold qpu
    cases hb:Nat.beq j r1 with
    | true=>have:=Nat.eq_of_beq_eq_true hb;omega
    | false=>cases hb2:Nat.beq j r2 with
      | true=>have:=Nat.eq_of_beq_eq_true hb2;omega
      | false=>rfl
  · show qaf _ n2 (getT l i) _
    have hg:=get.ok
    clear get obj ho hinj
    induction l with
    | nil=>exact qaf.any
    | cons p r ih =>
      obtain⟨j,a⟩:=p
      simp only [getT]
      cases hb:Nat.beq j i with
      | true =>
        obtain rfl:=Nat.eq_of_beq_eq_true hb
        exact hg _ List.mem_cons_self
      | false=>exact ih fun q hq=>hg q (List.mem_cons_of_mem _ hq)
  · obtain⟨h3,o1,h4,h5,_⟩:=ho _ (Hp.qa2 h)
    exact⟨h3,o1,h4,h5⟩
  · exact hinj _ (Hp.qa2 hi) _ (Hp.qa2 hj) h
  · obtain⟨_,o1,h3,_,h4⟩:=ho _ (Hp.qa2 hi)
    obtain⟨_,o2,h5,_,h6⟩:=ho _ (Hp.qa2 hj)
    rw[show qpu r1 m1 r2 m2 (i,oi).1=qpu r1 m1 r2 m2 i from rfl,h1] at h3
    rw[show qpu r1 m1 r2 m2 (j,oj).1=qpu r1 m1 r2 m2 j from rfl,h2] at h5
    cases h3;cases h5
    exact hij (hF i j f (h4.symm.trans k1) (h6.symm.trans k2))
theorem qqo {l:Hp}{ρ:Nat→Nat}(h:(l.all fun p=>l.all fun q=>!(Nat.beq (ρ p.1) (ρ q.1))||Nat.beq p.1 q.1)=true):∀ p∈l,∀ q∈l,ρ p.1=ρ q.1→p.1=q.1:=fun p hp q hq he=>by
  have h1:=List.all_eq_true.1 (List.all_eq_true.1 h p hp) q hq
  rw[he,Nat.beq_refl] at h1
  exact Nat.eq_of_beq_eq_true (by simpa using h1)
def fam2 (a b:Nat)(i:Nat):Option Nat:=match Nat.beq i a with
  | true=>some a
  | false=>match Nat.beq i b with
    | true=>some b
    | false=>none
theorem fam2_inj (a b:Nat):∀ i j f,fam2 a b i=some f→fam2 a b j=some f→i=j:=fun i j f h1 h2=>by
  have key:∀ i,fam2 a b i=some f→i=f:=fun i h=>by
    unfold fam2 at h
    cases hb:Nat.beq i a with
    | true=>rw[hb] at h;cases h;exact Nat.eq_of_beq_eq_true hb
    | false =>
      rw[hb] at h
      cases hb2:Nat.beq i b with
      | true=>rw[hb2] at h;cases h;exact Nat.eq_of_beq_eq_true hb2
      | false=>rw[hb2] at h;cases h
  exact(key i h1).trans (key j h2).symm
theorem qby {O:Ar}(hO:O=std){ops:Array Oper}{h:Hp}{f:Fm}{i j:Nat}{o:Oper}{c:List qex}{r:AV}(hp:pickD O T ops [] h f [i]=some (j,o,c,r))(hc:qpa c):lightV T ops h f i=some r:=by
  obtain⟨h1,_,_,h4⟩:=qhi hO hp
  obtain rfl:j=i:=by simpa using h1
  exact h4 (qha hc)
def qai.bun (d:qai)(t:qlq)(w:Nat):Int:=qh9 (stemN d t.st w t.ns) (t.fe w)
def qai.lef (d:qai)(t:qlq)(w:Nat):Int:=(stemN d t.st w t.ns).tmod (t.fe w)
def sumN (b:Nat→Int):Nat→Int
  | 0=>0
  | i+1=>qin (sumN b i) (b i)
def qai.all (d:qai)(t:qlq):Int:=sumN (d.bun t) d.nw
structure qko where
  n:Nat
  eb:Bool
  bun:Nat→Int
  el:Bool
  lef:Nat→Int
  hands:Int
  loose:Int
  flats:Int
  spare:Int
def talC (y:qko):List AV:=[qap y.n y.eb y.bun,qap y.n y.el y.lef,iV y.hands,iV y.loose,iV y.flats,iV y.spare]
def qk0 (y:qko):AV:=.agg (talC y)
theorem qk1 (y:qko):∀ a∈talC y,Below 0 a:=qb2.ok ⟨qa3 _ _ _,qa3 _ _ _,Below.lit,Below.lit,Below.lit,Below.lit,trivial⟩
theorem qbo (y:qko):Below 0 (qk0 y):=Below.agg (qk1 y)
def qai.qbc (d:qai)(t:qlq):qko where
  n:=d.nw
  eb:=false
  bun:=d.bun t
  el:=false
  lef:=d.lef t
  hands:=qh9 (d.all t) d.hand
  loose:=(d.all t).tmod d.hand
  flats:=qh9 (qh9 (d.all t) d.hand) d.flat
  spare:=(qh9 (d.all t) d.hand).tmod d.flat
theorem qf3 (fl:Nat→Int)(i k:Nat):Below 0 (qb6 fl i k):=Below.lit
theorem intC_one (fl:Nat→Int)(i k:Nat):(qb6 fl i k).one=true:=rfl
theorem Eqv.nil {sz:Nat}{ex:Bool}{g:Nat→Nat→AV}:Eqv (.lit (.slice none 0 0)) (.isl 0 sz ex g):=fun _ _ hv=>by cases hv;exact .isl0 _ _ _
def slG (id sz:Nat):Nat→AV
  | 0=>.lit (.slice none 0 0)
  | n+1=>.sl id 0 (n+1) sz false
def tal0:List AV:=[nl3,nl3,iV 0,iV 0,iV 0,iV 0]
theorem qfy:∀ a∈tal0,Below 0 a:=qb2.ok ⟨Below.lit,Below.lit,Below.lit,Below.lit,Below.lit,Below.lit,trivial⟩
def talS (d:qai)(t:qlq)(A B:AV)(H:Hp):St:=⟨H++[(3,.cells none false [A,B,iV 0,iV 0,iV 0,iV 0]),(2,.cells none false tal0),(1,.cells none false (truC t)),(0,.cells none false (qgc d))],6⟩
def objs2 (b l:Nat→Int):Nat→Hp
  | 0=>[]
  | n+1=>[(4,.cells none false (flatG 1 (qb6 b) (n+1))),(5,.cells none false (flatG 1 (qb6 l) (n+1)))]
theorem qlb (fl:Nat→Int)(n:Nat)(v:Int)(h:v=fl n):flatG 1 (qb6 fl) n++[iV v]=flatG 1 (qb6 fl) (n+1):=by
  rw[h];rfl
set_option maxHeartbeats 8000000 in
theorem qwe (d:qai)(t:qlq)(hf:t.nf=d.nw)(hs:t.ns=d.nl)(hw:d.nw≤4)(hl:d.nl≤4)(hfe:∀ w,w<d.nw→t.fe w≠0)(hh:d.hand≠0)(hfl:d.flat≠0):Pure Try.prog 84 [qdp d,truV t] (qk0 (d.qbc t)):=by
  obtain⟨O,hO⟩:∃ O:Ar,O=std:=⟨_,rfl⟩
  have hnat:∀ i:Nat,O.nat (Int.ofNat i)=i:=fun i=>by subst hO;rfl
  refine qad tok 3 Try.func84 en84 rfl ⟨qal d,qkz t,trivial⟩ (qbo _) ?_
  refine SW.qab tok hO (by cbv <;> rfl) (by trivial) ?_
  refine SW.qab tok hO (by cbv <;> rfl) (by trivial) ?_
  refine SW.qab tok hO (by cbv <;> rfl) (by trivial) ?_
  obtain⟨BU,hBU⟩:∃ b,b=d.bun t:=⟨_,rfl⟩
  obtain⟨LE,hLE⟩:∃ b,b=d.lef t:=⟨_,rfl⟩
  have hsum:∀ i v,v=BU i→O.bin .add .i64 (sumN BU i) v=sumN BU (i+1):=fun i v hv=>by subst hv;subst hO;rfl
  refine SW.seq (SW.mono (Q:=fun e fm st=>e=.normal∧∃ g A B,fm=⟨⟨61,g⟩,[]⟩∧g 2=.ptr 0 0∧g 4=.ptr 2 0∧g 5=.ptr 3 0∧g 6=iV (sumN BU d.nw)∧Eqv A (qap d.nw false BU)∧Eqv B (qap d.nw false LE)∧(A=nl3∨∃ len sz h,A=.isl len sz false h)∧(B=nl3∨∃ len sz h,B=.isl len sz false h)∧st=talS d t A B []) ?_ ?_)
  · refine SW.qab tok hO (by cbv <;> rfl) (by trivial) ?_
    refine(SW.block (SW.qmn (fun i:Nat=>⟨⟨61,getT [(2,.ptr 0 0),(3,.ptr 1 0),(4,.ptr 2 0),(5,.ptr 3 0),(6,iV (sumN BU i)),(11,iV d.nw),(12,iV i)]⟩,[]⟩) (fun i=>talS d t (slG 4 1 i) (slG 5 1 i) (objs2 BU LE i)) (fun i=>d.nw - i) (fun i=>i≤d.nw) 0 (Nat.zero_le _) (qpu 4 4 5 5) ?_ fun i hi=>?_))
    · refine qbx.up2 (fun _=>none) (fun _ _ _ h=>by cases h) rfl rfl (by simp) (by show 4≤4;omega) (by show 4≤5;omega) (qqo (by rfl)) (by show 4≤6;omega) ⟨qaf.ptr (by omega),qaf.ptr (by omega),qaf.ptr (by omega),qaf.ptr (by omega),qaf.closed Below.lit,qaf.closed Below.lit,qaf.closed Below.lit,trivial⟩
        ⟨⟨by omega,_,rfl,.cells (qay.closed qfy),rfl⟩,⟨by omega,_,rfl,.cells (qay.closed qfy),rfl⟩,⟨by omega,_,rfl,.cells (qay.closed (qfx t)),rfl⟩,⟨by omega,_,rfl,.cells (qay.closed (qa4 d)),rfl⟩,trivial⟩
    have hpile:=fun(h:i<d.nw)=>qtp d t i (by omega) (by omega) (by omega)
    have hb:=fun(h:i<d.nw)=>qlk (t.fe i) (stemN d t.st i t.ns) (hfe i h)
    have hlf:=fun(h:i<d.nw)=>qg0 (t.fe i) (stemN d t.st i t.ns) (hfe i h)
    have eb:qh9 (stemN d t.st i t.ns) (t.fe i)=BU i:=by rw[hBU];rfl
    have el:(stemN d t.st i t.ns).tmod (t.fe i)=LE i:=by rw[hLE];rfl
    rw[eb] at hb
    rw[el] at hlf
    generalize hF:t.fe i=F at hpile hb hlf
    generalize hS:stemN d t.st i t.ns=S at hpile hb hlf
    have hsum:=hsum i
    obtain⟨acc,hacc⟩:∃ acc,acc=sumN BU i:=⟨_,rfl⟩
    rw[←hacc] at hsum ⊢
    cases i with
    | zero =>
      refine SW.qab tok hO (by cbv <;> rfl) (by trivial) ?_
      refine SW.seq (SW.qa6 (by cbv <;> rfl) (fun h=>SW.skip ?_) (fun h=>?_))
      · have hlt:0<d.nw:=by subst hO;simpa[std] using h
        refine SW.seq (SW.block ?_)
        refine SW.qab tok hO (by cbv <;> rfl) (by trivial) ?_
        refine SW.qab tok hO (by cbv <;> rfl) (by trivial) ?_
        refine qac.qas (hpile hlt) (by cbv <;> rfl) ?_
        refine qac.run tok hO (by cbv <;> rfl) (by trivial) ?_
        refine SW.qbf tok mixed hO (by rfl) (by cbv <;> rfl) (by trivial) ?_
        refine AnyE.qas (hb hlt) (by cbv <;> rfl) (by cbv <;> rfl) ?_
        refine AnyE.run tok hO (by rfl) (by cbv <;> rfl) (by trivial) ?_
        refine AnyE.qey tok hO (by cbv <;> rfl) (by cbv <;> rfl) (by trivial) ?_ ?_
        · exact⟨by cbv <;> rfl,by cbv <;> rfl,trivial⟩
        refine AnyE.qev tok (by cbv <;> rfl) (by cbv <;> rfl) (by rfl) (by kernel_rfl) (by rfl) (by rfl) ?_
        refine AnyE.run tok hO (by rfl) (by cbv <;> rfl) (by trivial) ?_
        refine AnyE.eff tok hO (by cbv <;> rfl) (by cbv <;> rfl) (by trivial) ?_
        refine AnyE.done (by rfl) ?_
        refine SW.qbf tok mixed hO (by rfl) (by cbv <;> rfl) (by trivial) ?_
        refine AnyE.qas (hlf hlt) (by cbv <;> rfl) (by cbv <;> rfl) ?_
        refine AnyE.run tok hO (by rfl) (by cbv <;> rfl) (by trivial) ?_
        refine AnyE.qey tok hO (by cbv <;> rfl) (by cbv <;> rfl) (by trivial) ?_ ?_
        · exact⟨by cbv <;> rfl,by cbv <;> rfl,trivial⟩
        refine AnyE.qev tok (by cbv <;> rfl) (by cbv <;> rfl) (by rfl) (by kernel_rfl) (by rfl) (by rfl) ?_
        refine AnyE.run tok hO (by rfl) (by cbv <;> rfl) (by trivial) ?_
        refine AnyE.eff tok hO (by cbv <;> rfl) (by cbv <;> rfl) (by trivial) ?_
        refine AnyE.done (by rfl) ?_
        refine SW.run tok hO (by cbv <;> rfl) (by trivial) ?_
        refine qac.qas (hb hlt) (by cbv <;> rfl) ?_
        refine qac.run tok hO (by cbv <;> rfl) (by trivial) ?_
        refine SW.run tok hO (by cbv <;> rfl) (by trivial) ?_
        refine⟨1,by omega,by omega,qpu 4 8 5 10,?_⟩
        refine qbx.up2 (fun _=>none) (fun _ _ _ h=>by cases h) rfl rfl (by simp) (by show 4≤4;omega) (by show 4≤5;omega) (qqo (by rfl)) (by show 4≤6;omega) ⟨qaf.ptr (by omega),qaf.ptr (by omega),qaf.ptr (by omega),qaf.ptr (by omega),?_,qaf.closed Below.lit,qaf.inc hO (by omega),trivial⟩
          ⟨⟨by omega,_,rfl,.cells (qay.of_eq (by subst hO;rfl) (qar (qf3 _) 1)),rfl⟩,⟨by omega,_,rfl,.cells (qay.of_eq (by subst hO;rfl) (qar (qf3 _) 1)),rfl⟩,
           ⟨by omega,_,rfl,.cells (.cons (qaf.sl (by omega)) (.cons (qaf.sl (by omega)) (qay.closed (qb2.ok ⟨Below.lit,Below.lit,Below.lit,Below.lit,trivial⟩)))),rfl⟩,⟨by omega,_,rfl,.cells (qay.closed qfy),rfl⟩,⟨by omega,_,rfl,.cells (qay.closed (qfx t)),rfl⟩,⟨by omega,_,rfl,.cells (qay.closed (qa4 d)),rfl⟩,trivial⟩
        show qaf _ _ (iV (sumN BU 1)) (.lit (.int .i64 (O.bin .add .i64 acc (BU 0))))
        rw[hsum _ rfl]
        exact qaf.closed Below.lit
      · have hz:d.nw=0:=by
          have:d.nw≤0:=by subst hO;simpa[std] using h
          omega
        refine SW.exit ⟨rfl,_,nl3,nl3,rfl,rfl,rfl,rfl,?_,?_,?_,.inl rfl,.inl rfl,rfl⟩
        · rw[hz,←hacc];rfl
        · rw[hz];exact Eqv.nil
        · rw[hz];exact Eqv.nil
    | succ i =>
      obtain⟨GA,hGA⟩:∃ G,G=flatG 1 (qb6 BU) (i+1):=⟨_,rfl⟩
      obtain⟨GB,hGB⟩:∃ G,G=flatG 1 (qb6 LE) (i+1):=⟨_,rfl⟩
      have hobj:objs2 BU LE (i+1)=[(4,.cells none false GA),(5,.cells none false GB)]:=by rw[hGA,hGB];rfl
      show SW _ _ _ _ _ (talS d t (.sl 4 0 (i+1) 1 false) (.sl 5 0 (i+1) 1 false) (objs2 BU LE (i+1)))
      rw[hobj]
      refine SW.qab tok hO (by cbv <;> rfl) (by trivial) ?_
      refine SW.seq (SW.qa6 (by cbv <;> rfl) (fun h=>SW.skip ?_) (fun h=>?_))
      · have hlt:i+1<d.nw:=by
          have:((i+1:Nat):Int)<(d.nw:Int):=by subst hO;simpa[std] using h
          omega
        refine SW.seq (SW.block ?_)
        refine SW.qab tok hO (by cbv <;> rfl) (by trivial) ?_
        refine SW.qab tok hO (by cbv <;> rfl) (by trivial) ?_
        refine qac.qas (hpile hlt) (by cbv <;> rfl) ?_
        refine qac.run tok hO (by cbv <;> rfl) (by trivial) ?_
        refine SW.qbf tok mixed hO (by rfl) (by cbv <;> rfl) (by trivial) ?_
        refine AnyE.qas (hb hlt) (by cbv <;> rfl) (by cbv <;> rfl) ?_
        refine AnyE.run tok hO (by rfl) (by cbv <;> rfl) (by trivial) ?_
        refine AnyE.qey tok hO (by cbv <;> rfl) (by cbv <;> rfl) (by trivial) ?_ ?_
        · exact⟨by cbv <;> rfl,by cbv <;> rfl,trivial⟩
        refine AnyE.qeh (g:=qb6 BU) tok (by cbv <;> rfl) (by cbv <;> rfl) (by rfl) (by rfl) hGA (by kernel_rfl) (by rfl) (by rfl) (by omega) fun GA' hGA'=>?_
        refine AnyE.run tok hO (by rfl) (by cbv <;> rfl) (by trivial) ?_
        refine AnyE.eff tok hO (by cbv <;> rfl) (by cbv <;> rfl) (by trivial) ?_
        refine AnyE.done (by rfl) ?_
        refine SW.qbf tok mixed hO (by rfl) (by cbv <;> rfl) (by trivial) ?_
        refine AnyE.qas (hlf hlt) (by cbv <;> rfl) (by cbv <;> rfl) ?_
        refine AnyE.run tok hO (by rfl) (by cbv <;> rfl) (by trivial) ?_
        refine AnyE.qey tok hO (by cbv <;> rfl) (by cbv <;> rfl) (by trivial) ?_ ?_
        · exact⟨by cbv <;> rfl,by cbv <;> rfl,trivial⟩
        refine AnyE.qeh (g:=qb6 LE) tok (by cbv <;> rfl) (by cbv <;> rfl) (by rfl) (by rfl) hGB (by kernel_rfl) (by rfl) (by rfl) (by omega) fun GB' hGB'=>?_
        refine AnyE.run tok hO (by rfl) (by cbv <;> rfl) (by trivial) ?_
        refine AnyE.eff tok hO (by cbv <;> rfl) (by cbv <;> rfl) (by trivial) ?_
        refine AnyE.done (by rfl) ?_
        refine SW.run tok hO (by cbv <;> rfl) (by trivial) ?_
        refine qac.qas (hb hlt) (by cbv <;> rfl) ?_
        refine qac.run tok hO (by cbv <;> rfl) (by trivial) ?_
        refine SW.run tok hO (by cbv <;> rfl) (by trivial) ?_
        refine⟨i+1+1,by omega,by omega,qpu 4 8 5 10,?_⟩
        refine qbx.up2 (fam2 4 5) (fam2_inj 4 5) rfl rfl (by simp) (by show 4≤4;omega) (by show 4≤5;omega) (qqo (by rfl)) (by show 4≤6;omega) ⟨qaf.ptr (by omega),qaf.ptr (by omega),qaf.ptr (by omega),qaf.ptr (by omega),?_,qaf.closed Below.lit,qaf.inc hO (by omega),trivial⟩
          ⟨⟨by omega,_,rfl,.cells (qay.of_eq (hGA'.trans (qlb BU (i+1) _ rfl)) (qar (qf3 _) _)),rfl⟩,⟨by omega,_,rfl,.cells (qay.of_eq (hGB'.trans (qlb LE (i+1) _ rfl)) (qar (qf3 _) _)),rfl⟩,
           ⟨by omega,_,rfl,.cells (.cons (qaf.sl (by omega)) (.cons (qaf.sl (by omega)) (qay.closed (qb2.ok ⟨Below.lit,Below.lit,Below.lit,Below.lit,trivial⟩)))),rfl⟩,⟨by omega,_,rfl,.cells (qay.closed qfy),rfl⟩,⟨by omega,_,rfl,.cells (qay.closed (qfx t)),rfl⟩,⟨by omega,_,rfl,.cells (qay.closed (qa4 d)),rfl⟩,trivial⟩
        show qaf _ _ (iV (sumN BU (i+1+1))) (.lit (.int .i64 (O.bin .add .i64 acc (BU (i+1)))))
        rw[hsum _ rfl]
        exact qaf.closed Below.lit
      · have hz:d.nw=i+1:=by
          have:(d.nw:Int)≤((i+1:Nat):Int):=by subst hO;simpa[std] using h
          omega
        have hlA:(i+1)*1≤GA.length:=by rw[hGA,qaj];omega
        have hlB:(i+1)*1≤GB.length:=by rw[hGB,qaj];omega
        refine SW.qe7 (fun j=>Nat.beq j 4||Nat.beq j 5) 3 (by rfl) (SW.exit ⟨rfl,_,_,_,rfl,rfl,rfl,rfl,?_,?_,?_,?_,?_,rfl⟩)
        · rw[hz,←hacc];rfl
        · show Eqv (frz _ _ 3 (.sl 4 0 (i+1) 1 false)) _
          rw[hz,qcc (fm:=none) (G:=GA) rfl rfl hlA,hGA]
          exact Eqv.isl rfl fun i' k hi' hk=>Eqv.of (qcn hi' hk rfl)
        · show Eqv (frz _ _ 3 (.sl 5 0 (i+1) 1 false)) _
          rw[hz,qcc (fm:=none) (G:=GB) rfl rfl hlB,hGB]
          exact Eqv.isl rfl fun i' k hi' hk=>Eqv.of (qcn hi' hk rfl)
        · exact .inr ⟨_,_,_,qcc (fm:=none) (G:=GA) rfl rfl hlA⟩
        · exact .inr ⟨_,_,_,qcc (fm:=none) (G:=GB) rfl rfl hlB⟩
  · rintro e fm st ⟨rfl,g,A,B,rfl,g2,g4,g5,g6,hA,hB',fA,fB,rfl⟩
    have hall:d.all t=sumN BU d.nw:=by rw[hBU];rfl
    have hres:∀ x y z u:Int,x=qh9 (sumN BU d.nw) d.hand→y=(sumN BU d.nw).tmod d.hand→z=qh9 (qh9 (sumN BU d.nw) d.hand) d.flat→u=(qh9 (sumN BU d.nw) d.hand).tmod d.flat→Eqv (.agg [A,B,iV x,iV y,iV z,iV u]) (qk0 (d.qbc t)):=fun x y z u hx hy hz hu=>by
      subst hx;subst hy;subst hz;subst hu
      unfold qk0 talC qai.qbc
      rw[hall,←hBU,←hLE]
      exact Eqv.agg (.cons hA (.cons hB' (.cons (Eqv.refl _) (.cons (Eqv.refl _) (.cons (Eqv.refl _) (.cons (Eqv.refl _) .nil))))))
    generalize sumN BU d.nw=al at g6 hres
    rw[←qav g2,←qav g4,←qav g5,←qav g6]
    rcases fA with rfl | ⟨la,sa,ha,rfl⟩ <;> rcases fB with rfl | ⟨lb,sb,hb2,rfl⟩
    all_goals
      refine SW.qbf tok mixed hO (by rfl) (by cbv <;> rfl) ?_ ?_
      · first | exact hh | exact⟨hh,hh⟩
      refine AnyE.qey tok hO (by cbv <;> rfl) (by cbv <;> rfl) (by trivial) ?_ ?_
      · exact⟨by refine qby hO (by cbv <;> rfl) ?_;exact hh,by cbv <;> rfl,by cbv <;> rfl,by cbv <;> rfl,trivial⟩
      refine AnyE.run tok hO (by rfl) (by cbv <;> rfl) (by trivial) ?_
      refine AnyE.eff tok hO (by cbv <;> rfl) (by cbv <;> rfl) (by trivial) ?_
      refine AnyE.done (by rfl) ?_
      refine SW.qbf tok mixed hO (by rfl) (by cbv <;> rfl) ?_ ?_
      · first | exact hfl | exact⟨hfl,hfl⟩
      refine AnyE.qey tok hO (by cbv <;> rfl) (by cbv <;> rfl) (by trivial) ?_ ?_
      · exact⟨by refine qby hO (by cbv <;> rfl) ?_;exact hfl,by cbv <;> rfl,by cbv <;> rfl,trivial⟩
      refine AnyE.run tok hO (by rfl) (by cbv <;> rfl) (by trivial) ?_
      refine AnyE.eff tok hO (by cbv <;> rfl) (by cbv <;> rfl) (by trivial) ?_
      refine AnyE.done (by rfl) ?_
      refine SW.qab tok hO (by cbv <;> rfl) (by trivial) ?_
      refine SW.ret ⟨_,_,rfl,rfl,?_⟩
      exact hres _ _ _ _ (by subst hO;rfl) (by subst hO;rfl) (by subst hO;rfl) (by subst hO;rfl)
end Go.Fz
namespace Go.Fz
open Go.Proofs
set_option maxRecDepth 100000
theorem m98_ok (y:qko)(w:Nat)(hw:w<y.n):Pure Try.prog 129 [qk0 y,iV w] (iV (y.bun w)):=by
  obtain⟨O,hO⟩:∃ O:Ar,O=std:=⟨_,rfl⟩
  have hw0:(0:Int)≤Int.ofNat w:=Int.natCast_nonneg w
  refine qad tok 3 Try.func129 en129 rfl ⟨qbo y,Below.lit,trivial⟩ Below.lit ?_
  refine SW.qab tok hO (by cbv <;> rfl) (by trivial) ?_
  refine SW.qab tok hO (by cbv <;> rfl) ?_ ?_
  · exact⟨hw0,Int.ofNat_lt.2 hw⟩
  exact SW.ret ⟨_,_,rfl,rfl,Eqv.int (by subst hO;rfl)⟩
theorem m99_ok (y:qko)(w:Nat)(hw:w<y.n):Pure Try.prog 130 [qk0 y,iV w] (iV (y.lef w)):=by
  obtain⟨O,hO⟩:∃ O:Ar,O=std:=⟨_,rfl⟩
  have hw0:(0:Int)≤Int.ofNat w:=Int.natCast_nonneg w
  refine qad tok 3 Try.func130 en130 rfl ⟨qbo y,Below.lit,trivial⟩ Below.lit ?_
  refine SW.qab tok hO (by cbv <;> rfl) (by trivial) ?_
  refine SW.qab tok hO (by cbv <;> rfl) ?_ ?_
  · exact⟨hw0,Int.ofNat_lt.2 hw⟩
  exact SW.ret ⟨_,_,rfl,rfl,Eqv.int (by subst hO;rfl)⟩
theorem m100_ok (y:qko)(w:Int):Pure Try.prog 131 [qk0 y,iV w] (iV y.hands):=by
  obtain⟨O,hO⟩:∃ O:Ar,O=std:=⟨_,rfl⟩
  refine qad tok 3 Try.func131 en131 rfl ⟨qbo y,Below.lit,trivial⟩ Below.lit ?_
  refine SW.qab tok hO (by cbv <;> rfl) (by trivial) ?_
  refine SW.qab tok hO (by cbv <;> rfl) (by trivial) ?_
  exact SW.ret ⟨_,_,rfl,rfl,Eqv.refl _⟩
theorem m101_ok (y:qko)(w:Int):Pure Try.prog 132 [qk0 y,iV w] (iV y.loose):=by
  obtain⟨O,hO⟩:∃ O:Ar,O=std:=⟨_,rfl⟩
  refine qad tok 3 Try.func132 en132 rfl ⟨qbo y,Below.lit,trivial⟩ Below.lit ?_
  refine SW.qab tok hO (by cbv <;> rfl) (by trivial) ?_
  refine SW.qab tok hO (by cbv <;> rfl) (by trivial) ?_
  exact SW.ret ⟨_,_,rfl,rfl,Eqv.refl _⟩
theorem m102_ok (y:qko)(w:Int):Pure Try.prog 133 [qk0 y,iV w] (iV y.flats):=by
  obtain⟨O,hO⟩:∃ O:Ar,O=std:=⟨_,rfl⟩
  refine qad tok 3 Try.func133 en133 rfl ⟨qbo y,Below.lit,trivial⟩ Below.lit ?_
  refine SW.qab tok hO (by cbv <;> rfl) (by trivial) ?_
  refine SW.qab tok hO (by cbv <;> rfl) (by trivial) ?_
  exact SW.ret ⟨_,_,rfl,rfl,Eqv.refl _⟩
theorem m103_ok (y:qko)(w:Int):Pure Try.prog 134 [qk0 y,iV w] (iV y.spare):=by
  obtain⟨O,hO⟩:∃ O:Ar,O=std:=⟨_,rfl⟩
  refine qad tok 3 Try.func134 en134 rfl ⟨qbo y,Below.lit,trivial⟩ Below.lit ?_
  refine SW.qab tok hO (by cbv <;> rfl) (by trivial) ?_
  refine SW.qab tok hO (by cbv <;> rfl) (by trivial) ?_
  exact SW.ret ⟨_,_,rfl,rfl,Eqv.refl _⟩
theorem qth (y:qko)(w:Nat)(hw:w<y.n)(lo hi:Int):Pure Try.prog 113 [.agg [iV 0,iV w,iV lo,iV hi],qk0 y] (.sb (inB (y.bun w) lo hi)):=by
  obtain⟨O,hO⟩:∃ O:Ar,O=std:=⟨_,rfl⟩
  refine qad tok 3 Try.func113 qnv rfl ⟨Below.agg (qb2.ok ⟨Below.lit,Below.lit,Below.lit,Below.lit,trivial⟩),qbo y,trivial⟩ Below.sb ?_
  refine SW.qab tok hO (by cbv <;> rfl) (by trivial) ?_
  refine SW.qbf tok mixed hO (by rfl) (by cbv <;> rfl) (by trivial) ?_
  refine AnyE.qas (qqj w lo hi) (by cbv <;> rfl) (by cbv <;> rfl) ?_
  refine AnyE.run tok hO (by rfl) (by cbv <;> rfl) (by trivial) ?_
  refine AnyE.qas (m98_ok y w hw) (by cbv <;> rfl) (by cbv <;> rfl) ?_
  refine AnyE.run tok hO (by rfl) (by cbv <;> rfl) (by trivial) ?_
  have hc:=qla lo hi (y.bun w)
  generalize inB (y.bun w) lo hi=b at hc
  refine AnyE.qas hc (by cbv <;> rfl) (by cbv <;> rfl) ?_
  refine AnyE.run tok hO (by rfl) (by cbv <;> rfl) (by trivial) ?_
  exact SW.ret ⟨_,_,rfl,rfl,Eqv.refl _⟩
theorem qtg (y:qko)(w:Nat)(hw:w<y.n)(lo hi:Int):Pure Try.prog 113 [.agg [iV 1,iV w,iV lo,iV hi],qk0 y] (.sb (inB (y.lef w) lo hi)):=by
  obtain⟨O,hO⟩:∃ O:Ar,O=std:=⟨_,rfl⟩
  refine qad tok 3 Try.func113 qnv rfl ⟨Below.agg (qb2.ok ⟨Below.lit,Below.lit,Below.lit,Below.lit,trivial⟩),qbo y,trivial⟩ Below.sb ?_
  refine SW.qab tok hO (by cbv <;> rfl) (by trivial) ?_
  refine SW.qbf tok mixed hO (by rfl) (by cbv <;> rfl) (by trivial) ?_
  refine AnyE.qas (qqi w lo hi) (by cbv <;> rfl) (by cbv <;> rfl) ?_
  refine AnyE.run tok hO (by rfl) (by cbv <;> rfl) (by trivial) ?_
  refine AnyE.qas (m99_ok y w hw) (by cbv <;> rfl) (by cbv <;> rfl) ?_
  refine AnyE.run tok hO (by rfl) (by cbv <;> rfl) (by trivial) ?_
  have hc:=qla lo hi (y.lef w)
  generalize inB (y.lef w) lo hi=b at hc
  refine AnyE.qas hc (by cbv <;> rfl) (by cbv <;> rfl) ?_
  refine AnyE.run tok hO (by rfl) (by cbv <;> rfl) (by trivial) ?_
  exact SW.ret ⟨_,_,rfl,rfl,Eqv.refl _⟩
theorem qtf (y:qko)(w:Int)(lo hi:Int):Pure Try.prog 113 [.agg [iV 2,iV w,iV lo,iV hi],qk0 y] (.sb (inB (y.hands) lo hi)):=by
  obtain⟨O,hO⟩:∃ O:Ar,O=std:=⟨_,rfl⟩
  refine qad tok 3 Try.func113 qnv rfl ⟨Below.agg (qb2.ok ⟨Below.lit,Below.lit,Below.lit,Below.lit,trivial⟩),qbo y,trivial⟩ Below.sb ?_
  refine SW.qab tok hO (by cbv <;> rfl) (by trivial) ?_
  refine SW.qbf tok mixed hO (by rfl) (by cbv <;> rfl) (by trivial) ?_
  refine AnyE.qas (qqh w lo hi) (by cbv <;> rfl) (by cbv <;> rfl) ?_
  refine AnyE.run tok hO (by rfl) (by cbv <;> rfl) (by trivial) ?_
  refine AnyE.qas (m100_ok y w) (by cbv <;> rfl) (by cbv <;> rfl) ?_
  refine AnyE.run tok hO (by rfl) (by cbv <;> rfl) (by trivial) ?_
  have hc:=qla lo hi (y.hands)
  generalize inB (y.hands) lo hi=b at hc
  refine AnyE.qas hc (by cbv <;> rfl) (by cbv <;> rfl) ?_
  refine AnyE.run tok hO (by rfl) (by cbv <;> rfl) (by trivial) ?_
  exact SW.ret ⟨_,_,rfl,rfl,Eqv.refl _⟩
theorem qte (y:qko)(w:Int)(lo hi:Int):Pure Try.prog 113 [.agg [iV 3,iV w,iV lo,iV hi],qk0 y] (.sb (inB (y.loose) lo hi)):=by
  obtain⟨O,hO⟩:∃ O:Ar,O=std:=⟨_,rfl⟩
  refine qad tok 3 Try.func113 qnv rfl ⟨Below.agg (qb2.ok ⟨Below.lit,Below.lit,Below.lit,Below.lit,trivial⟩),qbo y,trivial⟩ Below.sb ?_
  refine SW.qab tok hO (by cbv <;> rfl) (by trivial) ?_
  refine SW.qbf tok mixed hO (by rfl) (by cbv <;> rfl) (by trivial) ?_
  refine AnyE.qas (qqg w lo hi) (by cbv <;> rfl) (by cbv <;> rfl) ?_
  refine AnyE.run tok hO (by rfl) (by cbv <;> rfl) (by trivial) ?_
  refine AnyE.qas (m101_ok y w) (by cbv <;> rfl) (by cbv <;> rfl) ?_
  refine AnyE.run tok hO (by rfl) (by cbv <;> rfl) (by trivial) ?_
  have hc:=qla lo hi (y.loose)
  generalize inB (y.loose) lo hi=b at hc
  refine AnyE.qas hc (by cbv <;> rfl) (by cbv <;> rfl) ?_
  refine AnyE.run tok hO (by rfl) (by cbv <;> rfl) (by trivial) ?_
  exact SW.ret ⟨_,_,rfl,rfl,Eqv.refl _⟩
theorem qtd (y:qko)(w:Int)(lo hi:Int):Pure Try.prog 113 [.agg [iV 4,iV w,iV lo,iV hi],qk0 y] (.sb (inB (y.flats) lo hi)):=by
  obtain⟨O,hO⟩:∃ O:Ar,O=std:=⟨_,rfl⟩
  refine qad tok 3 Try.func113 qnv rfl ⟨Below.agg (qb2.ok ⟨Below.lit,Below.lit,Below.lit,Below.lit,trivial⟩),qbo y,trivial⟩ Below.sb ?_
  refine SW.qab tok hO (by cbv <;> rfl) (by trivial) ?_
  refine SW.qbf tok mixed hO (by rfl) (by cbv <;> rfl) (by trivial) ?_
  refine AnyE.qas (qqf w lo hi) (by cbv <;> rfl) (by cbv <;> rfl) ?_
  refine AnyE.run tok hO (by rfl) (by cbv <;> rfl) (by trivial) ?_
  refine AnyE.qas (m102_ok y w) (by cbv <;> rfl) (by cbv <;> rfl) ?_
  refine AnyE.run tok hO (by rfl) (by cbv <;> rfl) (by trivial) ?_
  have hc:=qla lo hi (y.flats)
  generalize inB (y.flats) lo hi=b at hc
  refine AnyE.qas hc (by cbv <;> rfl) (by cbv <;> rfl) ?_
  refine AnyE.run tok hO (by rfl) (by cbv <;> rfl) (by trivial) ?_
  exact SW.ret ⟨_,_,rfl,rfl,Eqv.refl _⟩
theorem qtc (y:qko)(w:Int)(lo hi:Int):Pure Try.prog 113 [.agg [iV 5,iV w,iV lo,iV hi],qk0 y] (.sb (inB (y.spare) lo hi)):=by
  obtain⟨O,hO⟩:∃ O:Ar,O=std:=⟨_,rfl⟩
  refine qad tok 3 Try.func113 qnv rfl ⟨Below.agg (qb2.ok ⟨Below.lit,Below.lit,Below.lit,Below.lit,trivial⟩),qbo y,trivial⟩ Below.sb ?_
  refine SW.qab tok hO (by cbv <;> rfl) (by trivial) ?_
  refine SW.qbf tok mixed hO (by rfl) (by cbv <;> rfl) (by trivial) ?_
  refine AnyE.qas (qqe w lo hi) (by cbv <;> rfl) (by cbv <;> rfl) ?_
  refine AnyE.run tok hO (by rfl) (by cbv <;> rfl) (by trivial) ?_
  refine AnyE.qas (m103_ok y w) (by cbv <;> rfl) (by cbv <;> rfl) ?_
  refine AnyE.run tok hO (by rfl) (by cbv <;> rfl) (by trivial) ?_
  have hc:=qla lo hi (y.spare)
  generalize inB (y.spare) lo hi=b at hc
  refine AnyE.qas hc (by cbv <;> rfl) (by cbv <;> rfl) ?_
  refine AnyE.run tok hO (by rfl) (by cbv <;> rfl) (by trivial) ?_
  exact SW.ret ⟨_,_,rfl,rfl,Eqv.refl _⟩
def qko.cnt (y:qko)(k w:Int):Int:=if k=0 then y.bun w.toNat else if k=1 then y.lef w.toNat else if k=2 then y.hands else if k=3 then y.loose else if k=4 then y.flats else y.spare
def qai.qgd (d:qai)(y:qko)(i:Nat):Bool:=inB (y.cnt (d.ck i) (d.cw i)) (d.clo i) (d.chi i)
theorem qf0 (d:qai)(y:qko)(i:Nat)(h0:0≤d.ck i)(h6:d.ck i<6)(hw0:0≤d.cw i)(hw:d.cw i<y.n):Pure Try.prog 113 [qvx d i,qk0 y] (.sb (d.qgd y i)):=by
  have hc:d.ck i=0∨d.ck i=1∨d.ck i=2∨d.ck i=3∨d.ck i=4∨d.ck i=5:=by omega
  obtain⟨w,hwn⟩:=Int.eq_ofNat_of_zero_le hw0
  unfold qvx qai.qgd
  rcases hc with h | h | h | h | h | h <;> rw[h]
  · rw[hwn];exact qth y w (by omega) _ _
  · rw[hwn];exact qtg y w (by omega) _ _
  · exact qtf y _ _ _
  · exact qte y _ _ _
  · exact qtd y _ _ _
  · exact qtc y _ _ _
def qkg (M:Nat→Bool):List AV:=[.sb (M 0),.sb (M 1),.sb (M 2),.sb (M 3),.sb (M 4)]
theorem qfd (n:Nat)(M:Nat→Bool):∀ a∈qkg M,Below n a:=qb2.ok ⟨Below.sb,Below.sb,Below.sb,Below.sb,Below.sb,trivial⟩
def wrM (r:Nat→Bool)(i j:Nat):Bool:=decide (j<i)&&!(r j)
theorem qrc (d:qai)(y:qko)(hn:d.nc≤5)(hok:∀ i,i<d.nc→0≤d.ck i∧d.ck i<6∧0≤d.cw i∧d.cw i<y.n):Pure Try.prog 83 [qdp d,qk0 y] (.agg (qkg (wrM (d.qgd y) d.nc))):=by
  obtain⟨O,hO⟩:∃ O:Ar,O=std:=⟨_,rfl⟩
  have hnat:∀ i:Nat,O.nat (Int.ofNat i)=i:=fun i=>by subst hO;rfl
  have hr:=fun i (h:i<d.nc)=>qf0 d y i (hok i h).1 (hok i h).2.1 (hok i h).2.2.1 (hok i h).2.2.2
  generalize d.qgd y=R at hr
  refine qad tok 3 Try.func83 en83 rfl ⟨qal d,qbo y,trivial⟩ (Below.agg (qfd 0 _)) ?_
  refine SW.qab tok hO (by cbv <;> rfl) (by trivial) ?_
  refine SW.qab tok hO (by cbv <;> rfl) (by trivial) ?_
  refine SW.seq ?_
  refine SW.qab tok hO (by cbv <;> rfl) (by trivial) ?_
  refine(SW.block (SW.qhk (fun i:Nat=>⟨⟨24,getT [(3,.ptr 1 0),(4,.ptr 2 0),(5,.ptr 3 0),(9,qd8 d),(10,iV d.nc),(11,iV i)]⟩,[]⟩)
    (fun i=>⟨[(3,.cells none false (qkg (wrM R i))),(2,.cells none false (qkg fun _=>false)),(1,.cells none false (talC y))],4⟩) (fun i=>d.nc - i) (fun i=>i≤d.nc) 0
    (fun _=>rfl) (Nat.zero_le _) (qdt.by rfl rfl (by simp) (Nat.le_refl _) (Nat.le_refl _) ⟨⟨rfl,.inl rfl⟩,⟨rfl,.inl rfl⟩,⟨rfl,.inl rfl⟩,⟨rfl,.inl rfl⟩,⟨rfl,.inl rfl⟩,⟨rfl,.inl rfl⟩,trivial⟩ ⟨⟨rfl,by omega,.inl rfl⟩,⟨rfl,by omega,.inl rfl⟩,⟨rfl,by omega,.inl rfl⟩,trivial⟩) fun i hi=>?_))
  generalize hM:wrM R i=M
  refine SW.qab tok hO (by cbv <;> rfl) (by trivial) ?_
  refine SW.seq (SW.qa6 (by cbv <;> rfl) (fun h=>SW.skip ?_) (fun h=>SW.exit ?_))
  · have hlt:i<d.nc:=by subst hO;simpa[std] using h
    have hi0:(0:Int)≤Int.ofNat i:=Int.natCast_nonneg i
    refine SW.seq (SW.block ?_)
    refine SW.qab tok hO (by cbv <;> rfl) ?_ ?_
    · exact⟨hi0,Int.ofNat_lt.2 hlt⟩
    refine SW.run tok hO (by cbv <;> rfl) (by trivial) ?_
    have hri:=hr i hlt
    rw[←hnat i] at hri
    unfold qvx at hri
    refine qac.qas hri (by cbv <;> rfl) ?_
    rw[hnat i]
    generalize hb:R i=b
    refine qac.run tok hO (by cbv <;> rfl) ?_ ?_
    · exact⟨by show O.nat (Int.ofNat i)<5;rw[hnat];omega,hi0,Int.ofNat_lt.2 (show i<5 by omega)⟩
    refine SW.run tok hO (by cbv <;> rfl) (by trivial) ?_
    have hk:∀ j,O.upsB j (O.nat (Int.ofNat i)) (O.not b) (M j)=wrM R (i+1) j:=fun j=>by
      rw[hnat,←hM,←hb];subst hO
      simp only [std,wrM]
      by_cases e:i=j
      · subst e;simp
      · rw[if_neg e]
        by_cases e2:j<i
        · simp[e2,show j<i+1 by omega]
        · simp[e2,show ¬ j<i+1 by omega]
    refine⟨i+1,by omega,by omega,qdt.by rfl rfl (by simp) (Nat.le_refl _) (by show 4≤5;omega) ⟨⟨rfl,.inr (Below.ptr (by omega))⟩,⟨rfl,.inr (Below.ptr (by omega))⟩,⟨rfl,.inr (Below.ptr (by omega))⟩,⟨rfl,.inr (Below.up (m:=0) (qbl d))⟩,⟨rfl,.inr Below.lit⟩,⟨qci hO (by omega),.inr Below.lit⟩,trivial⟩
      ⟨⟨congrArg (fun l=>some (AObj.cells none false l)) ?_,by omega,.inr ⟨qfd 4 _,fun _ h=>by cases h⟩⟩,⟨rfl,by omega,.inr ⟨qfd 4 _,fun _ h=>by cases h⟩⟩,⟨rfl,by omega,.inr ⟨fun a ha=>Below.up (m:=0) (qk1 y a ha),fun _ h=>by cases h⟩⟩,trivial⟩⟩
    simp only [qkg,←hk]
  · refine SW.qab tok hO (by cbv <;> rfl) (by trivial) ?_
    have hge:d.nc≤i:=by subst hO;simpa[std] using h
    have:i=d.nc:=by omega
    subst hM
    rw[←this]
    refine SW.ret ⟨_,_,rfl,rfl,Eqv.of rfl⟩
end Go.Fz
namespace Go.Fz
open Go.Proofs
set_option maxRecDepth 100000
structure qai.Good (d:qai):Prop where
  nw:d.nw≤4
  nl:d.nl≤4
  nc:d.nc≤5
  pos:0<d.nw
  hand:1≤d.hand∧d.hand≤20
  flat:1≤d.flat∧d.flat≤20
  wom:∀ i,i<d.nw→1≤d.wlo i∧d.wlo i≤d.whi i∧d.whi i≤60
  lot:∀ i,i<d.nl→(0≤d.lw i∧d.lw i<d.nw)∧0≤d.llo i∧d.llo i≤d.lhi i∧d.lhi i≤5000
  cnt:∀ i,i<d.nc→(0≤d.ck i∧d.ck i<6)∧(0≤d.cw i∧d.cw i<d.nw)∧(d.cw i=0∨d.ck i<2)∧0≤d.clo i∧d.clo i≤d.chi i∧d.chi i≤20000
theorem qho {d:qai}(h1:d.qix=false)(h2:d.qdr=true):d.Good:=by
  simp only [qai.qix,Bool.or_eq_false_iff,decide_eq_false_iff_not,Nat.not_lt] at h1
  simp only [qai.qdr,bet,Bool.and_eq_true,decide_eq_true_eq,qdz] at h2
  obtain⟨⟨⟨⟨⟨h3,h4⟩,h5⟩,h6⟩,h7⟩,h8⟩:=h2
  refine⟨h1.1.1,h1.1.2,h1.2,h5,h3,h4,fun i hi=>?_,fun i hi=>?_,fun i hi=>?_⟩
  · have:=h6 i hi
    simp only [qbq,Bool.and_eq_true,decide_eq_true_eq] at this
    omega
  · have:=h7 i hi
    simp only [qai.qkq,qbq,qai.qou,Bool.and_eq_true,decide_eq_true_eq] at this
    omega
  · have:=h8 i hi
    simp only [qai.qkv,qbq,qai.qou,Bool.and_eq_true,Bool.or_eq_true,decide_eq_true_eq] at this
    omega
theorem qb0 {d:qai}(h:d.check=0):d.Good:=by
  unfold qai.check at h
  split at h
  · omega
  · rename_i h1
    split at h
    · rename_i h2;exact qho (by simpa using h1) h2
    · omega
theorem quz {d:qai}{t:qlq}(h:d.fits t=true):t.nf=d.nw∧t.ns=d.nl∧(∀ i,i<d.nw→d.wlo i≤t.fe i∧t.fe i≤d.whi i)∧(∀ i,i<d.nl→d.llo i≤t.st i∧t.st i≤d.lhi i):=by
  simp only [qai.fits,inB,Bool.and_eq_true,decide_eq_true_eq,qdz] at h
  obtain⟨⟨⟨h1,h2⟩,h3⟩,h4⟩:=h
  exact⟨h1,h2,fun i hi=>h3 i (by omega),fun i hi=>h4 i (by omega)⟩
theorem qsr {d:qai}{t:qlq}(g:d.Good)(h:d.fits t=true):Pure Try.prog 84 [qdp d,truV t] (qk0 (d.qbc t)):=by
  obtain⟨h1,h2,h3,h4⟩:=quz h
  exact qwe d t h1 h2 g.nw g.nl (fun w hw=>by have:=h3 w hw;have:=g.wom w hw;omega) (by have:=g.hand;omega) (by have:=g.flat;omega)
end Go.Fz
