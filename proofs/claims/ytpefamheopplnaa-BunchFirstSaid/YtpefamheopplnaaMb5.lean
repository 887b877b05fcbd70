/- Own work of the verifier of watercress: EvR, EvW, EvZ, EvQ, EvKa, EvKb, EvKc, EvKd, EvKe. -/
import Derived.Test.YtpefamheopplnaaMb4
import Derived.Test.YtpefamheopplnaaMb2
set_option linter.unusedVariables false
set_option linter.unusedSimpArgs false
namespace Go.Ev
mutual
def renV (ρ:Nat→Option Nat):AV→Option AV
  | .lit v=>some (.lit v)
  | .ptr i o=>match ρ i with
    | some j=>some (.ptr j o)
    | none=>none
  | .sl i a b c d=>match ρ i with
    | some j=>some (.sl j a b c d)
    | none=>none
  | .mp i=>match ρ i with
    | some j=>some (.mp j)
    | none=>none
  | .yld i=>match ρ i with
    | some j=>some (.yld j)
    | none=>none
  | .fn f a b=>match renL ρ a,renL ρ b with
    | some a',some b'=>some (.fn f a' b')
    | _,_=>none
  | .agg a=>match renL ρ a with
    | some a'=>some (.agg a')
    | none=>none
  | .tup a=>match renL ρ a with
    | some a'=>some (.tup a')
    | none=>none
def renL (ρ:Nat→Option Nat):List AV→Option (List AV)
  | []=>some []
  | a::r=>match renV ρ a with
    | none=>none
    | some a'=>match renL ρ r with
      | some r'=>some (a'::r')
      | none=>none
end
def qr9 (ρ:Nat→Option Nat)(φ φ':Fi):Prop:=∀ i j,ρ i=some j→i<φ.n→φ'.f j=φ.f i∧j<φ'.n
mutual
theorem qjj {ρ:Nat→Option Nat}{φ φ':Fi}(hρ:qr9 ρ φ φ'):∀ {a a':AV}{u:Value},renV ρ a=some a'→VR φ a u→VR φ' a' u:=by
  intro a a' u h hv
  unfold renV at h
  split at h
  · cases h;obtain rfl:=hv.qao;exact .lit _
  · split at h
    · rename_i j hj
      cases h
      obtain⟨rfl,hi⟩:=hv.qca
      obtain⟨h1,h2⟩:=hρ _ _ hj hi
      rw[←h1];exact .ptr j _ h2
    · cases h
  · split at h
    · rename_i j hj
      cases h
      obtain⟨cap,rfl,hi,h3,h4,h5⟩:=hv.qco
      obtain⟨h1,h2⟩:=hρ _ _ hj hi
      rw[←h1] at h5 ⊢
      exact .sl j _ _ _ _ cap h2 h3 h4 h5
    · cases h
  · split at h
    · rename_i j hj
      cases h
      obtain⟨rfl,hi⟩:=hv.qiv
      obtain⟨h1,h2⟩:=hρ _ _ hj hi
      rw[←h1];exact .mp j h2
    · cases h
  · split at h
    · rename_i j hj
      cases h
      obtain⟨rfl,hi⟩:=hv.qlu
      obtain⟨h1,h2⟩:=hρ _ _ hj hi
      rw[←h1];exact .yld j h2
    · cases h
  · rename_i f a b
    split at h
    · rename_i a' b' ha hb
      cases h
      obtain⟨us,vs,rfl,h1,h2⟩:=hv.qed
      exact .fn f (qe1 hρ ha h1) (qe1 hρ hb h2)
    · cases h
  · split at h
    · rename_i a' ha
      cases h
      obtain⟨us,rfl,h1⟩:=hv.qbd
      exact .agg (qe1 hρ ha h1)
    · cases h
  · split at h
    · rename_i a' ha
      cases h
      obtain⟨us,rfl,h1⟩:=hv.qgm
      exact .tup (qe1 hρ ha h1)
    · cases h
theorem qe1 {ρ:Nat→Option Nat}{φ φ':Fi}(hρ:qr9 ρ φ φ'):∀ {a a':List AV}{u:List Value},renL ρ a=some a'→VRL φ a u→VRL φ' a' u:=by
  intro a a' u h hv
  unfold renL at h
  split at h
  · cases h;cases hv;exact .nil
  · split at h
    · cases h
    · rename_i x hx
      split at h
      · rename_i r hr
        cases h
        cases hv with
        | cons h1 h2=>exact .cons (qjj hρ hx h1) (qe1 hρ hr h2)
      · cases h
end
theorem qps {ρ:Nat→Option Nat}:∀ {a a':List AV}{i:Nat}{x':AV},renL ρ a=some a'→a'[i]?=some x'→∃ x,a[i]?=some x∧renV ρ x=some x'
  | [],a',i,x',h,hx=>by simp only [renL,Option.some.injEq] at h;subst h;simp at hx
  | y::r,a',i,x',h,hx=>by
    simp only [renL] at h
    split at h
    · cases h
    · rename_i y' hy
      split at h
      · rename_i r' hr
        cases h
        cases i with
        | zero=>simp only [List.getElem?_cons_zero,Option.some.injEq] at hx ⊢;subst hx;exact⟨y,rfl,hy⟩
        | succ i=>rw[List.getElem?_cons_succ] at hx ⊢;exact qps hr hx
      · cases h
theorem qmc {ρ:Nat→Option Nat}:∀ {a a':List AV},renL ρ a=some a'→a'.length=a.length
  | [],a',h=>by simp only [renL,Option.some.injEq] at h;subst h;rfl
  | y::r,a',h=>by
    simp only [renL] at h
    split at h
    · cases h
    · split at h
      · rename_i r' hr;cases h;simp[qmc hr]
      · cases h
def renEs (ρ:Nat→Option Nat):List (AV × AV × Nat)→Option (List (AV × AV × Nat))
  | []=>some []
  | x::r=>match renV ρ x.1,renV ρ x.2.1,renEs ρ r with
    | some a,some b,some r'=>some ((a,b,x.2.2)::r')
    | _,_,_=>none
theorem qnf {ρ:Nat→Option Nat}:∀ {a a':List (AV × AV × Nat)},renEs ρ a=some a'→a'.length=a.length∧∀ (i:Nat)(x':AV × AV × Nat),a'[i]?=some x'→∃ x,a[i]?=some x∧renV ρ x.1=some x'.1∧renV ρ x.2.1=some x'.2.1∧x'.2.2=x.2.2
  | [],a',h=>by simp only [renEs,Option.some.injEq] at h;subst h;exact⟨rfl,fun i x hx=>by simp at hx⟩
  | y::r,a',h=>by
    simp only [renEs] at h
    split at h
    · rename_i a b r' h1 h2 h3
      cases h
      obtain⟨k1,k2⟩:=qnf h3
      refine⟨by simp[k1],fun i x hx=>?_⟩
      cases i with
      | zero=>simp only [List.getElem?_cons_zero,Option.some.injEq] at hx ⊢;subst hx;exact⟨y,rfl,h1,h2,rfl⟩
      | succ i=>rw[List.getElem?_cons_succ] at hx ⊢;exact k2 i x hx
    · cases h
def renO (ρ:Nat→Option Nat):AObj→Option AObj
  | .cells none ro cs=>match renL ρ cs with
    | some cs'=>some (.cells none ro cs')
    | none=>none
  | .cells (some g) ro cs=>match ρ g,renL ρ cs with
    | some g',some cs'=>some (.cells (some g') ro cs')
    | _,_=>none
  | .loop r=>match renL ρ r.tmps,ρ r.dfid with
    | some ts,some d=>some (.loop { r with tmps:=ts,dfid:=d})
    | _,_=>none
  | .dfr=>some .dfr
  | .map es c=>match renEs ρ es with
    | some es'=>some (.map es' c)
    | none=>none
  | .iter mid a b c=>match ρ mid with
    | some m=>some (.iter m a b c)
    | none=>none
theorem qmb {ρ:Nat→Option Nat}{o o':AObj}(h:renO ρ o=some o'):o'.own=o.own:=by
  unfold renO at h
  split at h <;> (try split at h) <;> cases h <;> rfl
theorem qpr {ρ:Nat→Option Nat}{o o':AObj}(h:renO ρ o=some o'){g:Nat}(hg:o.fam=some g):ρ g=o'.fam∧(ρ g).isSome:=by
  unfold renO at h
  split at h <;> (try split at h) <;> cases h <;> simp_all [AObj.fam]
theorem qjk {ρ:Nat→Option Nat}{φ φ':Fi}(hρ:qr9 ρ φ φ'){w:World}{i j:Nat}(hij:φ'.f j=φ.f i){o o':AObj}(h:renO ρ o=some o')(ho:qc9 φ w i o):qc9 φ' w j o':=by
  have cells:∀ {fm fm':Option Nat}{ro:Bool}{cs cs':List AV},renL ρ cs=some cs'→qc9 φ w i (.cells fm ro cs)→qc9 φ' w j (.cells fm' ro cs'):=fun {fm fm' ro cs cs'} hc h1=>by
    refine⟨fun k a ha=>?_,fun hro=>?_⟩
    · obtain⟨x,hx,hr⟩:=qps hc ha
      obtain⟨v,hv,hr2⟩:=h1.1 k x hx
      exact⟨v,by rw[hij];exact hv,qjj hρ hr hr2⟩
    · obtain⟨c,t,k1,k2,k3⟩:=h1.2 hro
      exact⟨c,t,by rw[hij];exact k1,by rw[hij];exact k2,by rw[hij,qmc hc];exact k3⟩
  unfold renO at h
  split at h
  · split at h
    · rename_i hc;cases h;exact cells hc ho
    · cases h
  · split at h
    · rename_i _ hc;cases h;exact cells hc ho
    · cases h
  · split at h
    · rename_i ts d h1 h2
      cases h
      obtain⟨L,g1,g2,g3,g4,g5,g6,g7,g8,g9⟩:=ho
      obtain⟨k1,k2⟩:=hρ _ _ h2 g8
      exact⟨L,by rw[hij];exact g1,g2,g3,qe1 hρ h1 g4,g5,g6,g7,k2,by rw[k1];exact g9⟩
    · cases h
  · cases h;show _=_;rw[hij];exact ho
  · split at h
    · rename_i es' hes
      cases h
      obtain⟨ces,h1,h2,h3⟩:=ho
      obtain⟨k1,k2⟩:=qnf hes
      refine⟨ces,by rw[hij];exact h1,by rw[h2,k1],fun q x hx=>?_⟩
      obtain⟨y,m1,m2,m3,m4⟩:=k2 q x hx
      obtain⟨e,n1,n2,n3,n4⟩:=h3 q y m1
      exact⟨e,n1,qjj hρ m2 n2,qjj hρ m3 n3,by rw[n4,m4]⟩
    · cases h
  · split at h
    · rename_i m hm
      cases h
      obtain⟨h1,h2,h3⟩:=ho
      obtain⟨k1,k2⟩:=hρ _ _ hm h3
      exact⟨by rw[hij,k1];exact h1,by rw[hij];exact h2,k2⟩
    · cases h
def posOf (i:Nat):Nat→List Nat→Option Nat
  | _,[]=>none
  | k,x::r=>if Nat.beq x i then some k else posOf i (k+1) r
theorem qk5 {i:Nat}:∀ {l:List Nat}{k j:Nat},posOf i k l=some j→∃ idx,j=k+idx∧l[idx]?=some i
  | x::r,k,j,h=>by
    simp only [posOf] at h
    split at h
    · rename_i hb
      cases h
      exact⟨0,rfl,by rw[Nat.eq_of_beq_eq_true hb];rfl⟩
    · obtain⟨idx,h1,h2⟩:=qk5 h
      exact⟨idx+1,by omega,by rw[List.getElem?_cons_succ];exact h2⟩
  | [],k,j,h=>by cases h
def rho (n0:Nat)(ord:List Nat)(i:Nat):Option Nat:=if Nat.blt i n0 then some i else posOf i n0 ord
def phi (n0:Nat)(ord:List Nat)(φ:Fi):Fi:=⟨fun j=>if j<n0 then φ.f j else φ.f (ord.getD (j - n0) 0),n0+ord.length⟩
theorem qgx {n0:Nat}{ord:List Nat}{φ:Fi}{j:Nat}(h:j<n0):(phi n0 ord φ).f j=φ.f j:=if_pos h
theorem qtq {n0:Nat}{ord:List Nat}{φ:Fi}{idx i:Nat}(h:ord[idx]?=some i):(phi n0 ord φ).f (n0+idx)=φ.f i:=by
  unfold phi
  simp only
  rw[if_neg (by omega)]
  congr 1
  rw[Nat.add_sub_cancel_left,List.getD_eq_getElem?_getD,h];rfl
theorem qpq (n0:Nat)(ord:List Nat)(φ:Fi):qr9 (rho n0 ord) φ (phi n0 ord φ):=by
  intro i j h _
  unfold rho at h
  split at h
  · rename_i hb
    cases h
    have hb:i<n0:=Nat.le_of_ble_eq_true hb
    exact⟨qgx hb,by unfold phi;simp only;omega⟩
  · obtain⟨idx,rfl,h2⟩:=qk5 h
    have:=(List.getElem?_eq_some_iff.1 h2).1
    exact⟨qtq h2,by unfold phi;simp only;omega⟩
def renOld (ρ:Nat→Option Nat)(n0:Nat):Hp→Option Hp
  | []=>some []
  | x::r=>match Nat.blt x.1 n0 with
    | false=>renOld ρ n0 r
    | true=>match renO ρ x.2 with
      | none=>none
      | some o=>match renOld ρ n0 r with
        | some r'=>some ((x.1,o)::r')
        | none=>none
def qeb (ρ:Nat→Option Nat)(h:Hp):Nat→List Nat→Option Hp
  | _,[]=>some []
  | k,i::l=>match h.get i with
    | none=>none
    | some o=>match renO ρ o with
      | none=>none
      | some o'=>match qeb ρ h (k+1) l with
        | some r=>some ((k,o')::r)
        | none=>none
theorem qh8 {ρ:Nat→Option Nat}{n0:Nat}:∀ {h h':Hp}{j:Nat}{x:AObj},renOld ρ n0 h=some h'→h'.get j=some x→j<n0∧∃ o,h.get j=some o∧renO ρ o=some x
  | [],h',j,x,hr,hx=>by simp only [renOld,Option.some.injEq] at hr;subst hr;cases hx
  | (i,y)::r,h',j,x,hr,hx=>by
    simp only [renOld] at hr
    split at hr
    · rename_i hb
      obtain⟨h1,o,h2,h3⟩:=qh8 hr hx
      have:¬ i=j:=fun e=>by
        subst e
        have:Nat.blt i n0=true:=Nat.ble_eq_true_of_le h1
        rw[this] at hb;cases hb
      exact⟨h1,o,by simp only [Hp.get,this,if_false];exact h2,h3⟩
    · rename_i hb
      have hb:i<n0:=Nat.le_of_ble_eq_true hb
      split at hr
      · cases hr
      · rename_i o ho
        split at hr
        · rename_i r' hr'
          cases hr
          by_cases hij:i=j
          · subst hij
            simp only [Hp.get,if_true,Option.some.injEq] at hx ⊢
            subst hx
            exact⟨hb,y,rfl,ho⟩
          · simp only [Hp.get,hij,if_false] at hx ⊢
            exact qh8 hr' hx
        · cases hr
theorem qk3 {ρ:Nat→Option Nat}{h:Hp}:∀ {l:List Nat}{k:Nat}{h':Hp}{j:Nat}{x:AObj},qeb ρ h k l=some h'→h'.get j=some x→∃ idx i o,j=k+idx∧l[idx]?=some i∧h.get i=some o∧renO ρ o=some x
  | [],k,h',j,x,hr,hx=>by simp only [qeb,Option.some.injEq] at hr;subst hr;cases hx
  | i::l,k,h',j,x,hr,hx=>by
    simp only [qeb] at hr
    split at hr
    · cases hr
    · rename_i o ho
      split at hr
      · cases hr
      · rename_i o' ho'
        split at hr
        · rename_i r hr'
          cases hr
          by_cases hj:k=j
          · subst hj
            simp only [Hp.get,if_true,Option.some.injEq] at hx
            subst hx
            exact⟨0,i,o,rfl,rfl,ho,ho'⟩
          · simp only [Hp.get,hj,if_false] at hx
            obtain⟨idx,i2,o2,h1,h2,h3⟩:=qk3 hr' hx
            exact⟨idx+1,i2,o2,by omega,by rw[List.getElem?_cons_succ];exact h2,h3⟩
        · cases hr
theorem Hp.get_append {j:Nat}{x:AObj}:∀ {a b:Hp},Hp.get (a++b) j=some x→Hp.get a j=some x∨Hp.get b j=some x
  | [],b,h=>.inr h
  | (i,y)::r,b,h=>by
    by_cases hij:i=j
    · simp only [List.cons_append,Hp.get,hij,if_true] at h ⊢;exact .inl h
    · simp only [List.cons_append,Hp.get,hij,if_false] at h ⊢;exact Hp.get_append h
theorem qma {n0:Nat}{ord:List Nat}{φ:Fi}{st:St}{w:World}{a b:Hp}(hr:Rel φ st w)(hn:ord.Nodup)(hge:∀ i∈ord,n0≤i)(ha:renOld (rho n0 ord) n0 st.h=some a)(hb:qeb (rho n0 ord) st.h n0 ord=some b) :
    Rel (phi n0 ord φ) ⟨b++a,n0+ord.length⟩ w∧∀ k,qfv (phi n0 ord φ) ⟨b++a,n0+ord.length⟩ k→qfv φ st k:=by
  have hρ:=qpq n0 ord φ
  have orig:∀ j x,Hp.get (b++a) j=some x→∃ i o,st.h.get i=some o∧renO (rho n0 ord) o=some x∧(phi n0 ord φ).f j=φ.f i∧j<n0+ord.length∧((j<n0∧i=j)∨∃ idx,j=n0+idx∧ord[idx]?=some i):=fun j x hx=>by
    rcases Hp.get_append hx with h | h
    · obtain⟨idx,i,o,h1,h2,h3,h4⟩:=qk3 hb h
      have:=(List.getElem?_eq_some_iff.1 h2).1
      subst h1
      exact⟨i,o,h3,h4,qtq h2,by omega,.inr ⟨idx,rfl,h2⟩⟩
    · obtain⟨h1,o,h2,h3⟩:=qh8 ha h
      exact⟨j,o,h2,h3,qgx h1,by omega,.inl ⟨h1,rfl⟩⟩
  refine⟨⟨rfl,fun j x hx=>?_,fun j x hx=>?_,fun j x hx=>?_,fun j1 j2 x1 x2 h1 h2 hne hown hbb=>?_⟩,fun k ⟨j,x,hx,hown,hk⟩=>?_⟩
  · obtain⟨i,o,_,_,_,h,_⟩:=orig j x hx;exact h
  · obtain⟨i,o,h1,_,h3,_⟩:=orig j x hx;rw[h3];exact hr.blk i o h1
  · obtain⟨i,o,h1,h2,h3,_⟩:=orig j x hx;exact qjk hρ h3 h2 (hr.obj i o h1)
  · obtain⟨i1,o1,k1,k2,k3,_,k5⟩:=orig j1 x1 h1
    obtain⟨i2,o2,m1,m2,m3,_,m5⟩:=orig j2 x2 h2
    have hii:i1≠i2:=fun e=>by
      subst e
      rcases k5 with ⟨k6,rfl⟩ | ⟨a1,rfl,k6⟩
      · rcases m5 with ⟨_,m6⟩ | ⟨a2,rfl,m6⟩
        · exact hne m6
        · have:=hge _ (List.mem_of_getElem? m6);omega
      · rcases m5 with ⟨m7,m6⟩ | ⟨a2,rfl,m6⟩
        · have:=hge _ (List.mem_of_getElem? k6);omega
        · obtain⟨q1,q2⟩:=List.getElem?_eq_some_iff.1 k6
          obtain⟨q3,q4⟩:=List.getElem?_eq_some_iff.1 m6
          have:=(List.getElem_inj hn).1 (q2.trans q4.symm)
          exact hne (by rw[this])
    rw[k3,m3] at hbb
    obtain⟨⟨g,hg1,hg2⟩,s1,s2,s3⟩:=hr.sep i1 i2 o1 o2 k1 m1 hii (by rw[←qmb k2];exact hown) hbb
    obtain⟨e1,e2⟩:=qpr k2 hg1
    obtain⟨e3,_⟩:=qpr m2 hg2
    obtain⟨g',hg'⟩:=Option.isSome_iff_exists.1 e2
    rw[hg'] at e1 e3
    exact⟨⟨g',e1.symm,e3.symm⟩,by rw[qmb m2];exact s1,by rw[k3,m3];exact s2,by rw[k3,m3];exact s3⟩
  · obtain⟨i,o,h1,h2,h3,_⟩:=orig j x hx
    exact⟨i,o,h1,by rw[←qmb h2];exact hown,by rw[←h3];exact hk⟩
mutual
def idsV:AV→List Nat
  | .lit _=>[]
  | .ptr i _ | .sl i _ _ _ _ | .mp i | .yld i=>[i]
  | .fn _ a b=>idsL a++idsL b
  | .agg a | .tup a=>idsL a
def idsL:List AV→List Nat
  | []=>[]
  | a::r=>idsV a++idsL r
end
def idsO:AObj→List Nat
  | .cells none _ cs=>idsL cs
  | .cells (some g) _ cs=>idsL cs++[g]
  | .map es _=>es.flatMap fun x=>idsV x.1++idsV x.2.1
  | .iter mid _ _ _=>[mid]
  | _=>[]
def reach (h:Hp)(n0:Nat):Nat→List Nat→List Nat→List Nat
  | 0,_,acc=>acc
  | _+1,[],acc=>acc
  | k+1,i::todo,acc=>match Nat.blt i n0||acc.contains i with
    | true=>reach h n0 k todo acc
    | false=>match h.get i with
      | some o=>reach h n0 k (todo++idsO o) (acc++[i])
      | none=>reach h n0 k todo acc
def canon (n0:Nat)(v:AV)(st:St):AV × St :=
  match Nat.beq st.n n0 with
  | true=>(v,st)
  | false =>
    let ord:=reach st.h n0 4000 (idsV v++(st.h.filter fun x=>Nat.blt x.1 n0&&!(objLt n0 x.2)).flatMap fun x=>idsO x.2) []
    match decide ord.Nodup&&ord.all (Nat.ble n0) with
    | false=>(v,st)
    | true=>match renV (rho n0 ord) v,renOld (rho n0 ord) n0 st.h,qeb (rho n0 ord) st.h n0 ord with
      | some v',some a,some b=>(v',⟨b++a,n0+ord.length⟩)
      | _,_,_=>(v,st)
end Go.Ev
namespace Go.Ev
section
variable {P:Program}{b:Frame}{a:Act}{k:List Item}{cs:List Frame}{w:World}
theorem qde {c:Code}:step P (lone (b.atR a (.code (.scope c)::k)) cs w)=.next (lone (b.atR a (.code c::.inScope c::k)) cs w) :=
  step_lone_go (by simp[stepG,stepG.exec,Frame.atR])
theorem qly {c:Code}:step P (lone (b.atR a (.inScope c::k)) cs w)=.next (lone (b.atR a k) cs w) :=
  step_lone_go (by simp[stepG,stepG.exec,Frame.atR])
end
def scopeQ (Q:Exit→Fm→St→Prop):Exit→Fm→St→Prop
  | .goto _,_,_=>False
  | e,f,st=>Q e f st
theorem SW.scope {P:Program}{rd:Option Nat}{c:Code}{Q:Exit→Fm→St→Prop}{f:Fm}{st:St}(h:SW P rd c (scopeQ Q) f st):SW P rd (.scope c) Q f st:=by
  intro φ w a n h1 h2 h3 b k cs hro hb hr
  have h0:(lone (b.atR a (.code (.scope c)::k)) cs w).fenced P (FW (rdB φ rd)):=fenced_calm hb hr rfl
  obtain⟨e,a₁,w₁,hq,harr⟩:=h φ w a n h1 h2 h3 b (.inScope c::k) cs hro hb hr
  obtain⟨f',st',φ',hk,r⟩:=hq
  cases e with
  | normal=>exact⟨.normal,a₁,w₁,⟨f',st',φ',hk,r⟩,.head h0 qde (StepsIn.trans harr (.one (fenced_calm hb hr rfl) qly))⟩
  | exit id =>
    have hx:exitTo id (.inScope c::k)=exitTo id k:=by simp[exitTo]
    exact⟨.exit id,a₁,w₁,⟨f',st',φ',hk,r⟩,fun k' hk=>.head h0 qde (harr.1 k' (by rw[hx];exact hk)),
      fun hr' hk=>let ⟨k₁,h1,h2⟩:=harr.2 hr' (by rw[hx];exact hk);⟨k₁,h1,.head h0 qde h2⟩⟩
  | goto l=>exact hk.elim
  | ret=>exact⟨_,a₁,w₁,⟨f',st',φ',hk,r⟩,.of_steps (.one h0 qde) harr⟩
  | panic ch=>exact⟨_,a₁,w₁,⟨f',st',φ',hk,r⟩,.of_steps (.one h0 qde) harr⟩
  | outgrown=>exact⟨_,a₁,w₁,⟨f',st',φ',hk,r⟩,.of_steps (.one h0 qde) harr⟩
end Go.Ev
namespace Go.Ev
section
variable {P:Program}
theorem SW.relabel {rd:Option Nat}{c:Code}{Q Q':Exit→Fm→St→Prop}{f:Fm}{st:St}(h:SW P rd c Q f st)
    (hq:∀ e f' st',Q e f' st'→Q' e f' st'∨∃ (ord:List Nat)(ts':List AV)(a b:Hp),ord.Nodup∧(∀ i∈ord,st.n≤i)∧(∀ d∈f'.dm,d<st.n)∧renL (rho st.n ord) f'.ts=some ts' ∧
      renOld (rho st.n ord) st.n st'.h=some a∧qeb (rho st.n ord) st'.h st.n ord=some b∧Q' e ⟨ts',f'.dm⟩ ⟨b++a,st.n+ord.length⟩):SW P rd c Q' f st:=by
  intro φ w a n h1 h2 h3
  refine wpIn_mono (h φ w a n h1 h2 h3) fun e a' w' hl=>?_
  obtain⟨f',st',φ',hk,hex,hrel,hact,hfr⟩:=hl
  rcases hq e f' st' hk with hk | ⟨ord,ts',ha,hb,k1,k2,k3,k4,k5,k6,k7⟩
  · exact⟨f',st',φ',hk,hex,hrel,hact,hfr⟩
  · obtain⟨m1,m2⟩:=qma hrel k1 k2 k5 k6
    refine⟨_,_,phi st.n ord φ',k7,⟨?_,fun id hid=>?_⟩,m1,⟨qe1 (qpq st.n ord φ') k4 hact.ts,?_,fun id hid=>?_⟩,⟨hfr.os,hfr.tape,hfr.output,hfr.size,hfr.block,fun k hk=>hfr.own k (m2 k hk)⟩⟩
    · rw[h2.n];unfold phi;simp only;omega
    · rw[qgx (by rw[←h2.n];exact hid)];exact hex.f id hid
    · rw[hact.dm]
      exact List.map_congr_left fun id hid=>by rw[qgx (k3 id hid)]
    · have:=k3 id hid;unfold phi;simp only;omega
def canonF (n0:Nat)(x:TF × St):TF × St :=
  match Nat.beq x.2.n n0 with
  | true=>x
  | false =>
    let ts:=x.1.abs.ts
    let ord:=reach x.2.h n0 4000 (idsL ts++(x.2.h.filter fun y=>Nat.blt y.1 n0&&!(objLt n0 y.2)).flatMap fun y=>idsO y.2) []
    match (decide ord.Nodup&&ord.all (Nat.ble n0))&&(x.1.dm.all fun d=>Nat.blt d n0) with
    | false=>x
    | true=>match renL (rho n0 ord) ts,renOld (rho n0 ord) n0 x.2.h,qeb (rho n0 ord) x.2.h n0 ord with
      | some ts',some a,some b=>({ TF.of ts' 0 with dm:=x.1.dm},⟨b++a,n0+ord.length⟩)
      | _,_,_=>x
theorem qvj {n0:Nat}{x:TF × St}(hx:x.1.ok):(canonF n0 x).1.ok∧(canonF n0 x=x∨∃ (ord:List Nat)(ts':List AV)(a b:Hp),ord.Nodup∧(∀ i∈ord,n0≤i)∧(∀ d∈x.1.abs.dm,d<n0)∧renL (rho n0 ord) x.1.abs.ts=some ts' ∧
      renOld (rho n0 ord) n0 x.2.h=some a∧qeb (rho n0 ord) x.2.h n0 ord=some b∧(canonF n0 x).1.abs=⟨ts',x.1.abs.dm⟩∧(canonF n0 x).2=⟨b++a,n0+ord.length⟩):=by
  unfold canonF
  split
  · exact⟨hx,.inl rfl⟩
  · simp only
    generalize reach x.2.h n0 4000 _ []=ord
    split
    · exact⟨hx,.inl rfl⟩
    · rename_i hc
      simp only [Bool.and_eq_true,decide_eq_true_eq,List.all_eq_true] at hc
      split
      · rename_i ts' a b h1 h2 h3
        have hlen:ts'.length=x.1.len:=by rw[qmc h1];simp[TF.abs]
        have hbig:max ts'.length 0≤qln:=by rw[hlen];unfold TF.ok at hx;omega
        refine⟨hbig,.inr ⟨ord,ts',a,b,hc.1.1,fun i hi=>Nat.le_of_ble_eq_true (hc.1.2 i hi),fun d hd=>Nat.le_of_ble_eq_true (hc.2 d hd),h1,h2,h3,?_,rfl⟩⟩
        have:=TF.abs_of hbig
        show(⟨(TF.of ts' 0).abs.ts,x.1.dm⟩:Fm)=_
        rw[this]
        simp[TF.abs]
      · exact⟨hx,.inl rfl⟩
def dedupF:List (TF × St)→List (TF × St)
  | []=>[]
  | x::r=>let r':=dedupF r;if r'.any fun y=>avsEq x.1.abs.ts y.1.abs.ts&&(x.1.dm == y.1.dm)&&stEq x.2 y.2 then r' else x::r'
theorem qid:∀ {l:List (TF × St)}{x:TF × St},x∈l→∃ y∈dedupF l,y.1.abs=x.1.abs∧y.2=x.2
  | z::r,x,h=>by
    simp only [dedupF]
    split
    · rename_i hany
      rcases List.mem_cons.1 h with rfl | h
      · rw[List.any_eq_true] at hany
        obtain⟨y,hy,he⟩:=hany
        simp only [Bool.and_eq_true,beq_iff_eq] at he
        refine⟨y,hy,?_,(qsv he.2).symm⟩
        have h1:=qff he.1.1
        have h2:y.1.abs.dm=x.1.abs.dm:=he.1.2.symm
        generalize x.1.abs=A at h1 h2
        generalize y.1.abs=B at h1 h2
        cases A;cases B
        simp only at h1 h2
        rw[h1,h2]
      · exact qid h
    · rcases List.mem_cons.1 h with rfl | h
      · exact⟨x,List.mem_cons_self,rfl,rfl⟩
      · obtain⟨y,h1,h2⟩:=qid h
        exact⟨y,List.mem_cons_of_mem _ h1,h2⟩
  | [],_,h=>by cases h
theorem qij:∀ {l:List (TF × St)}{x:TF × St},x∈dedupF l→x∈l
  | z::r,x,h=>by
    simp only [dedupF] at h
    split at h
    · exact List.mem_cons_of_mem _ (qij h)
    · rcases List.mem_cons.1 h with rfl | h
      · exact List.mem_cons_self
      · exact List.mem_cons_of_mem _ (qij h)
def mergeF (n0:Nat)(l:List (TF × St)):List (TF × St):=match l with
  | []=>[]
  | [x]=>[x]
  | l=>dedupF (l.map (canonF n0))
theorem SW.merge {rd:Option Nat}{c:Code}{K:Exit→Fm→St→Prop}{f:Fm}{st:St}{l:List (TF × St)}(h:SW P rd c (fun e f' st'=>e=.normal∧∃ x∈l,x.1.ok∧f'=x.1.abs∧st'=x.2) f st)
    (hk:∀ x∈mergeF st.n l,x.1.ok→K .normal x.1.abs x.2):SW P rd c K f st:=by
  by_cases hl:mergeF st.n l=dedupF (l.map (canonF st.n))
  · rw[hl] at hk
    refine h.relabel fun e f' st' ⟨he,x,hx,hok,hf,hs⟩=>?_
    subst he;subst hf;subst hs
    obtain⟨h1,h2⟩:=qvj (n0:=st.n) hok
    obtain⟨y,hy,hy1,hy2⟩:=qid (List.mem_map_of_mem (f:=canonF st.n) hx)
    have hyok:y.1.ok:=by
      obtain⟨z,hz,hzy⟩:=List.mem_map.1 (qij hy)
      have hlen:y.1.abs.ts.length=(canonF st.n x).1.abs.ts.length:=by rw[hy1]
      simp only [TF.abs,List.length_map,List.length_range] at hlen
      unfold TF.ok at *
      rw[hlen];exact h1
    have hkk:=hk y hy hyok
    rw[hy1,hy2] at hkk
    rcases h2 with h2 | ⟨ord,ts',a,b,k1,k2,k3,k4,k5,k6,k7,k8⟩
    · rw[h2] at hkk;exact .inl hkk
    · rw[k7,k8] at hkk
      exact .inr ⟨ord,ts',a,b,k1,k2,k3,k4,k5,k6,hkk⟩
  · have hsame:mergeF st.n l=l:=by
      unfold mergeF at hl ⊢
      split
      · rfl
      · rfl
      · exact absurd (by split <;> first | rfl | simp_all) hl
    rw[hsame] at hk
    refine h.mono fun e f' st' ⟨he,x,hx,hok,hf,hs⟩=>?_
    subst he;subst hf;subst hs
    exact hk x hx hok
end
end Go.Ev
namespace Go.Ev
abbrev qd0:=Exit × TF × St
def iterT (body:TF→St→Option (List qd0)):Nat→TF→St→Option (List qd0)
  | 0,_,_=>none
  | n+1,f,st=>match body f st with
    | none=>none
    | some outs=>bindL outs fun x=>match x with
      | (.normal,f',st')=>iterT body n f' st'
      | (e,f',st')=>some [(e,f',st')]
def rangeT (lid:Nat)(f:TF)(st:St):Option (List qd0) :=
  match loopAt st lid with
  | none=>none
  | some r=>match r.state with
    | .busy=>none
    | _=>match r.pending with
      | none=>some [(.normal,f,qa5 st lid { r with state:=.exhausted})]
      | some c=>match jumpE c with
        | some e=>some [(e,f,qa5 st lid { r with state:=.exhausted})]
        | none=>none
section
variable (T:Ti)(X:St→(Operand→AV)→Oper→Option (List (AV × St)))(call:qcy)(L:Nat)
def qoi (x:TF × St):qd0:=(.normal,x.1,x.2)
def blockT (id:Nat)(x:qd0):qd0:=match x with
  | (.exit id',f',st')=>if id'=id then(.normal,f',st') else(.exit id',f',st')
  | y=>y
def qt2 (x:qd0):Bool:=match x with
  | (.goto _,_,_)=>false
  | _=>true
def evCode2 (rd:Option Nat):Code→TF→St→Option (List qd0)
  | .skip,f,st=>some [(.normal,f,st)]
  | .label _,f,st=>some [(.normal,f,st)]
  | .exit id,f,st=>some [(.exit id,f,st)]
  | .ret,f,st=>some [(.ret,f,st)]
  | .seq a b,f,st=>match evCode2 rd a f st with
    | none=>none
    | some outs=>bindL outs fun x=>match x with
      | (.normal,f',st')=>evCode2 rd b f' st'
      | (e,f',st')=>some [(e,f',st')]
  | .cond c a b,f,st=>match f.av c with
    | .lit (.bool true)=>evCode2 rd a f st
    | .lit (.bool false)=>evCode2 rd b f st
    | _=>none
  | .block id c,f,st=>match evCode2 rd c f st with
    | none=>none
    | some outs=>some (outs.map (blockT id))
  | .loop c,f,st=>iterT (evCode2 rd c) L f st
  | .scope c,f,st=>match evCode2 rd c f st with
    | none=>none
    | some outs=>match outs.all qt2 with
      | true=>some outs
      | false=>none
  | .region _ ops true,f,st=>(evDrawn2 T X call ops (qc6 ops) ops.size [] (qks ops (qc6 ops)) 0 f st).map fun l=>(mergeF st.n l).map qoi
  | .region _ ops false,f,st=>(evOps2 T X call ops ops.toList f st).map fun l=>l.map qoi
  | .rangeFunc g ps assign body,f,st=>match f.av g with
    | .fn (.func gf) first caps=>match rd with
      | none=>match call (.fn (.func gf) first caps) [.yld (st.n+1)] ((st.push .dfr).push (.loop { state:=.ready,pending:=none,tmps:=f.abs.ts,params:=ps,assign,body,dfid:=st.n})) with
        | none=>none
        | some outs=>bindL outs fun x=>rangeT (st.n+1) { f with dm:=st.n::f.dm} x.2
      | some id0=>match loopAt st id0 with
        | none=>none
        | some r0=>match call (.fn (.func gf) first caps) [.yld st.n] (st.push (.loop { state:=.ready,pending:=none,tmps:=f.abs.ts,params:=ps,assign,body,dfid:=r0.dfid})) with
          | none=>none
          | some outs=>bindL outs fun x=>rangeT st.n f x.2
    | _=>none
  | _,_,_=>none
end
section
variable {P:Program}{T:Ti}{X:St→(Operand→AV)→Oper→Option (List (AV × St))}{call:qcy}{L:Nat}
theorem SW.unrollT {rd:Option Nat}{c:Code}{K:Exit→Fm→St→Prop}{body:TF→St→Option (List qd0)}(hb:∀ f st outs,f.ok→body f st=some outs→SW P rd c (fun e f' st'=>∃ tf,tf.ok∧f'=tf.abs∧(e,tf,st')∈outs) f.abs st){n:Nat}{f:TF}{st:St}{outs:List qd0}
    (hf:f.ok)(h:iterT body n f st=some outs)(hk:∀ x∈outs,x.2.1.ok→K x.1 x.2.1.abs x.2.2):SW P rd (.loop c) K f.abs st:=by
  refine SW.loop (fun n f st=>∃ tf outs,f=tf.abs∧tf.ok∧iterT body n tf st=some outs∧∀ x∈outs,x.2.1.ok→K x.1 x.2.1.abs x.2.2) n ⟨f,outs,rfl,hf,h,hk⟩ ?_
  intro n f st ⟨tf,outs,hft,hok,h,hk⟩
  subst hft
  cases n with
  | zero=>cases h
  | succ n =>
    simp only [iterT] at h
    split at h
    · cases h
    · rename_i os hos
      refine(hb tf st os hok hos).mono fun e f' st' ⟨tf',hok',hft',hm⟩=>?_
      subst hft'
      obtain⟨x,h1,h2⟩:=qc5 h _ hm
      cases e with
      | normal=>exact⟨n,Nat.lt_succ_self n,tf',x,rfl,hok',h1,fun y hy=>hk y (h2 y hy)⟩
      | _=>simp only [Option.some.injEq] at h1;subst h1;exact hk (_,tf',st') (h2 (_,tf',st') (List.mem_singleton.2 rfl)) hok'
theorem qng {rd:Option Nat}{lid:Nat}{f:TF}{st:St}{outs:List qd0}{Q:Exit→Fm→St→Prop}(h:rangeT lid f st=some outs)(hf:f.ok)(hq:∀ x∈outs,x.2.1.ok→Q x.1 x.2.1.abs x.2.2)(v:AV):qjm P rd lid Q f.abs v st:=by
  unfold rangeT at h
  split at h
  · cases h
  · rename_i r hr
    obtain⟨s,pd,tmps,ps,as,bd,df⟩:=r
    simp only at h
    have hs:s≠.busy:=fun e=>by subst e;cases h
    refine⟨_,hr,hs,?_⟩
    have h':(match pd with
      | none=>some [(Exit.normal,f,qa5 st lid { state:=.exhausted,pending:=pd,tmps,params:=ps,assign:=as,body:=bd,dfid:=df})]
      | some c=>match jumpE c with
        | some e=>some [(e,f,qa5 st lid { state:=.exhausted,pending:=pd,tmps,params:=ps,assign:=as,body:=bd,dfid:=df})]
        | none=>none)=some outs:=by
      cases s
      case busy=>exact absurd rfl hs
      all_goals (cases pd with
        | none=>exact h
        | some c=>simp only at h ⊢;cases hj:jumpE c <;> rw[hj] at h <;> exact h)
    cases pd with
    | none =>
      simp only [Option.some.injEq] at h'
      subst h'
      exact hq (.normal,_,_) (List.mem_singleton.2 rfl) hf
    | some c =>
      simp only at h' ⊢
      cases he:jumpE c with
      | none=>rw[he] at h';cases h'
      | some e =>
        rw[he] at h'
        simp only [Option.some.injEq] at h'
        subst h'
        have:=hq (e,_,_) (List.mem_singleton.2 rfl) hf
        unfold jumpE at he
        split at he
        · cases he;exact .ret this
        · cases he;exact .exit this
        · cases he
end
def retT (T:Ti)(fn:Func)(n0:Nat)(x:qd0):Option (List (AV × St)) :=
  match x with
  | (.normal,f,st) | (.ret,f,st)=>match killA f.dm st with
    | none=>none
    | some st'=>match resA T fn.results f.abs st' with
      | none=>none
      | some v=>some [canon n0 v st']
  | _=>none
def roundT (id:Nat)(x:qd0):Option (List (AV × St)) :=
  match x with
  | (.normal,_,st)=>match loopAt st id with
    | some r=>some [(.lit (.bool true),qa5 st id { r with state:=.ready,pending:=none})]
    | none=>none
  | (.ret,_,st)=>match loopAt st id with
    | some r=>some [(.lit (.bool false),qa5 st id { r with state:=.done,pending:=some .ret})]
    | none=>none
  | (.exit e,_,st)=>match loopAt st id with
    | some r=>some [(.lit (.bool false),qa5 st id { r with state:=.done,pending:=some (.exit e) })]
    | none=>none
  | _=>none
section
variable (T:Ti)(X:St→(Operand→AV)→Oper→Option (List (AV × St)))(L:Nat)(G:FuncId→Option Func)(C:FuncId→List AV→St→Option (List (AV × St)))
def evApply2:Nat→qcy
  | 0,_,_,_=>none
  | n+1,c,args,st=>match c with
    | .fn (.func g) first caps=>match C g (first++args++caps) st with
      | some outs=>some outs
      | none=>match G g with
        | none=>none
        | some fn=>match fn.body with
          | none=>none
          | some b=>match Nat.ble (max (first++args++caps).length fn.ntmps) qln with
            | false=>none
            | true=>match evCode2 T X (evApply2 n) L none b (TF.of (first++args++caps) fn.ntmps) st with
              | none=>none
              | some outs=>(bindL outs (retT T fn st.n)).map dedup
    | .yld id=>match loopAt st id with
      | none=>none
      | some r=>if(args.length == r.params.size&&Nat.ble (max (setPs r.tmps (r.params.toList.zip args)).length 0) qln)&&(tidyC r.assign&&tidyC r.body) then
          match evCode2 T X (evApply2 n) L (some id) r.assign (TF.of (setPs r.tmps (r.params.toList.zip args)) 0) st with
          | none=>none
          | some outs=>bindL outs fun x=>match x with
            | (.normal,f1,st1)=>match loopAt st1 id with
              | none=>none
              | some r1=>if qfm r1.state&&tidyC r.body then
                  match evCode2 T X (evApply2 n) L (some id) r.body f1 (qa5 st1 id { r1 with state:=.busy}) with
                  | none=>none
                  | some o2=>bindL o2 (roundT id)
                else none
            | _=>none
        else none
    | _=>none
end
section
variable {P:Program}{T:Ti}{X:St→(Operand→AV)→Oper→Option (List (AV × St))}{L:Nat}{G:FuncId→Option Func}{C:FuncId→List AV→St→Option (List (AV × St))}
end
end Go.Ev
namespace Go.Ev
inductive Pa where
  | here
  | l (p:Pa)
  | r (p:Pa)
def pthF:Nat→Nat→Pa
  | 0,_=>.here
  | n+1,i=>match Nat.beq i 0 with
    | true=>.here
    | false=>match Nat.beq (i % 2) 1 with
      | true=>.l (pthF n (i / 2))
      | false=>.r (pthF n (i / 2 - 1))
def pth (i:Nat):Pa:=pthF 20 i
noncomputable def Tr.vl (t:Tr):AV:=@Tr.rec (fun _=>AV) qb3 (fun v _ _ _ _=>v) t
noncomputable def Tr.lf (t:Tr):Tr:=@Tr.rec (fun _=>Tr) .nil (fun _ l _ _ _=>l) t
noncomputable def Tr.rt (t:Tr):Tr:=@Tr.rec (fun _=>Tr) .nil (fun _ _ r _ _=>r) t
noncomputable def goP (p:Pa):Tr→AV:=@Pa.rec (fun _=>Tr→AV) (fun t=>t.vl) (fun _ ih t=>ih t.lf) (fun _ ih t=>ih t.rt) p
noncomputable def seP (p:Pa):AV→Tr→Tr:=@Pa.rec (fun _=>AV→Tr→Tr) (fun x t=>.node x t.lf t.rt) (fun _ ih x t=>.node t.vl (ih x t.lf) t.rt) (fun _ ih x t=>.node t.vl t.lf (ih x t.rt)) p
theorem qqs:∀ (n:Nat)(t:Tr)(i:Nat),i+1<2 ^ n→goP (pthF n i) t=t.get i:=by
  intro n
  induction n with
  | zero=>intro t i h;simp at h
  | succ n ih =>
    intro t i h
    have hp:2 ^ (n+1)=2*2 ^ n:=by rw[Nat.pow_succ];omega
    rw[hp] at h
    have nilE:∀ p,goP p .nil=qb3:=fun p=>by induction p with
      | here=>rfl
      | l p ihp=>exact ihp
      | r p ihp=>exact ihp
    cases t with
    | nil=>rw[nilE];simp[Tr.get]
    | node v l r =>
      simp only [pthF,Tr.get]
      cases hi:Nat.beq i 0 with
      | true=>rfl
      | false =>
        have hi:=Nat.ne_of_beq_eq_false hi
        cases hm:Nat.beq (i % 2) 1 with
        | true=>exact ih l (i / 2) (by have:=Nat.eq_of_beq_eq_true hm;omega)
        | false=>exact ih r (i / 2 - 1) (by have:=Nat.ne_of_beq_eq_false hm;omega)
theorem seP_eq:∀ (n:Nat)(t:Tr)(i:Nat)(x:AV),i+1<2 ^ n→seP (pthF n i) x t=Tr.set n t i x:=by
  intro n
  induction n with
  | zero=>intro t i x h;simp at h
  | succ n ih =>
    intro t i x h
    have hp:2 ^ (n+1)=2*2 ^ n:=by rw[Nat.pow_succ];omega
    rw[hp] at h
    cases t with
    | nil =>
      simp only [pthF,Tr.set]
      cases hi:Nat.beq i 0 with
      | true=>rfl
      | false =>
        have hi:=Nat.ne_of_beq_eq_false hi
        cases hm:Nat.beq (i % 2) 1 with
        | true =>
          simp only
          rw[←ih .nil (i / 2) x (by have:=Nat.eq_of_beq_eq_true hm;omega)]
          rfl
        | false =>
          simp only
          rw[←ih .nil (i / 2 - 1) x (by have:=Nat.ne_of_beq_eq_false hm;omega)]
          rfl
    | node v l r =>
      simp only [pthF,Tr.set]
      cases hi:Nat.beq i 0 with
      | true=>rfl
      | false =>
        have hi:=Nat.ne_of_beq_eq_false hi
        cases hm:Nat.beq (i % 2) 1 with
        | true =>
          simp only
          rw[←ih l (i / 2) x (by have:=Nat.eq_of_beq_eq_true hm;omega)]
          rfl
        | false =>
          simp only
          rw[←ih r (i / 2 - 1) x (by have:=Nat.ne_of_beq_eq_false hm;omega)]
          rfl
inductive Ar where
  | t (d:Nat)(p:Pa)
  | c (v:AV)
def compA (x:Operand):Option Ar:=match x with
  | .tmp t=>match Nat.blt t 1048575 with
    | true=>some (.t t (pth t))
    | false=>none
  | .const v=>some (.c (ofV v))
  | .global g=>some (.c (.lit (.pointer (some ⟨g,0,none⟩))))
  | .func g=>some (.c (.fn (.func g) [] []))
noncomputable def Ar.ev (a:Ar)(f:TF):AV:=@Ar.rec (fun _=>AV) (fun d p=>@TF.rec (fun _=>AV) (fun t len _=>@Bool.rec (fun _=>AV) qb3 (goP p t) (Nat.blt d len)) f) (fun v=>v) a
theorem qba {x:Operand}{a:Ar}(h:compA x=some a)(f:TF):a.ev f=f.av x:=by
  unfold compA at h
  split at h
  · rename_i t
    split at h
    · rename_i ht
      cases h
      have hlt : @LT.lt Nat _ t 1048575:=Nat.le_of_ble_eq_true ht
      obtain⟨tr,len,dm⟩:=f
      simp only [TF.av,TF.at,Ar.ev,pth]
      rw[qqs 20 tr t (by omega)]
      cases Nat.blt t len <;> rfl
    · cases h
  · cases h;rfl
  · cases h;rfl
  · cases h;rfl
def compL:List Operand→Option (List Ar)
  | []=>some []
  | x::l=>match compA x,compL l with
    | some a,some r=>some (a::r)
    | _,_=>none
noncomputable def evL3 (f:TF)(l:List Ar):List AV:=@List.rec Ar (fun _=>List AV) [] (fun a _ ih=>a.ev f::ih) l
theorem qi9:∀ {l:List Operand}{as:List Ar},compL l=some as→∀ f,evL3 f as=l.map f.av
  | [],as,h,f=>by cases h;rfl
  | x::l,as,h,f=>by
    simp only [compL] at h
    split at h
    · rename_i a r ha hr
      cases h
      show a.ev f::evL3 f r=_
      rw[qba ha,qi9 hr];rfl
    · cases h
inductive De where
  | n
  | d (k:Nat)(p:Pa)
  | g (k:Nat)
def compD (x:Option Tmp):De:=match x with
  | none=>.n
  | some k=>match Nat.blt k 1048575 with
    | true=>.d k (pth k)
    | false=>.g k
noncomputable def putF (d:De)(f:TF)(v:AV):TF:=@De.rec (fun _=>TF) f (fun k p=>@TF.rec (fun _=>TF) (fun t len dm=>@Bool.rec (fun _=>TF) ⟨t,len,dm⟩ ⟨seP p v t,len,dm⟩ (Nat.blt k len)) f) (fun k=>f.put (some k) v) d
theorem qtn (x:Option Tmp)(f:TF)(v:AV):putF (compD x) f v=f.put x v:=by
  unfold compD
  split
  · rfl
  · rename_i k
    split
    · rename_i hk
      have hlt : @LT.lt Nat _ k 1048575:=Nat.le_of_ble_eq_true hk
      obtain⟨tr,len,dm⟩:=f
      simp only [putF,TF.put,pth]
      rw[seP_eq 20 tr k v (by omega)]
      cases Nat.blt k len <;> rfl
    · rfl
noncomputable def nthL {α:Type}(l:List α):Nat→Option α:=@List.rec α (fun _=>Nat→Option α) (fun _=>none) (fun a _ ih n=>@Bool.rec (fun _=>Option α) (ih (n - 1)) (some a) (Nat.beq n 0)) l
theorem qjp {α:Type}:∀ (l:List α)(n:Nat),nthL l n=l[n]?
  | [],n=>by simp[nthL]
  | a::l,0=>rfl
  | a::l,n+1=>by
    show nthL l (n+1 - 1)=_
    rw[qjp l];simp
noncomputable def qn2 {α:Type}(l:List α):Nat:=@List.rec α (fun _=>Nat) 0 (fun _ _ ih=>Nat.succ ih) l
theorem qgz {α:Type}:∀ (l:List α),qn2 l=l.length
  | []=>rfl
  | a::l=>by show Nat.succ (qn2 l)=_;rw[qgz l];rfl
noncomputable def dropL {α:Type}(l:List α):Nat→List α:=@List.rec α (fun _=>Nat→List α) (fun _=>[]) (fun a r ih n=>@Bool.rec (fun _=>List α) (ih (n - 1)) (a::r) (Nat.beq n 0)) l
theorem qq3 {α:Type}:∀ (l:List α)(n:Nat),dropL l n=l.drop n
  | [],n=>by simp[dropL]
  | a::l,0=>rfl
  | a::l,n+1=>by
    show dropL l (n+1 - 1)=_
    rw[qq3 l];simp
noncomputable def qwf {α:Type}(l:List α):Nat→List α:=@List.rec α (fun _=>Nat→List α) (fun _=>[]) (fun a _ ih n=>@Bool.rec (fun _=>List α) (a::ih (n - 1)) [] (Nat.beq n 0)) l
theorem qpk {α:Type}:∀ (l:List α)(n:Nat),qwf l n=l.take n
  | [],n=>by simp[qwf]
  | a::l,0=>rfl
  | a::l,n+1=>by
    show a::qwf l (n+1 - 1)=_
    rw[qpk l];simp
noncomputable def setL {α:Type}(l:List α):Nat→α→List α:=@List.rec α (fun _=>Nat→α→List α) (fun _ _=>[]) (fun a r ih n x=>@Bool.rec (fun _=>List α) (a::ih (n - 1) x) (x::r) (Nat.beq n 0)) l
theorem ql2 {α:Type}:∀ (l:List α)(n:Nat)(x:α),setL l n x=l.set n x
  | [],n,x=>by simp[setL]
  | a::l,0,x=>rfl
  | a::l,n+1,x=>by
    show a::setL l (n+1 - 1) x=_
    rw[ql2 l];simp
noncomputable def qs4 {α:Type}(xs:List α):List α→Nat→List α:=@List.rec α (fun _=>List α→Nat→List α) (fun cs _=>cs) (fun x _ ih cs off=>ih (setL cs off x) (off+1)) xs
theorem ql1 {α:Type}:∀ (xs cs:List α)(off:Nat),qs4 xs cs off=setsL cs off xs
  | [],cs,off=>rfl
  | x::xs,cs,off=>by
    show qs4 xs (setL cs off x) (off+1)=_
    rw[ql1 xs,ql2];rfl
noncomputable def qb7 (h:Hp):Nat→Option AObj:=fun id=>@List.rec (Nat × AObj) (fun _=>Option AObj) none (fun x _ ih=>@Bool.rec (fun _=>Option AObj) ih (some x.2) (Nat.beq x.1 id)) h
theorem qvo {α:Type}(i j:Nat)(a b:α) : @Bool.rec (fun _=>α) b a (Nat.beq i j)=if i=j then a else b:=by
  by_cases h:i=j
  · subst h;simp
  · have:Nat.beq i j=false:=by
      cases hb:Nat.beq i j with
      | false=>rfl
      | true=>exact absurd (Nat.eq_of_beq_eq_true hb) h
    rw[this,if_neg h]
theorem qfq:∀ (h:Hp)(id:Nat),qb7 h id=h.get id
  | [],id=>rfl
  | (i,o)::r,id=>by
    show @Bool.rec (fun _=>Option AObj) (qb7 r id) (some o) (Nat.beq i id)=_
    rw[qvo,qfq r];rfl
noncomputable def qvw (h:Hp):Nat→AObj→Hp:=fun id o=>@List.rec (Nat × AObj) (fun _=>Hp) [] (fun x r ih=>@Bool.rec (fun _=>Hp) (x::ih) ((x.1,o)::r) (Nat.beq x.1 id)) h
theorem qj0:∀ (h:Hp)(id:Nat)(o:AObj),qvw h id o=h.set id o
  | [],id,o=>rfl
  | (i,x)::r,id,o=>by
    show @Bool.rec (fun _=>Hp) ((i,x)::qvw r id o) ((i,o)::r) (Nat.beq i id)=_
    rw[qvo,qj0 r];rfl
noncomputable def qvz {α:Type}(p:α→Bool)(l:List α):Bool:=@List.rec α (fun _=>Bool) true (fun a _ ih=>@Bool.rec (fun _=>Bool) false ih (p a)) l
theorem qfg {α:Type}(p:α→Bool):∀ l:List α,qvz p l=l.all p
  | []=>rfl
  | a::l=>by
    show @Bool.rec (fun _=>Bool) false (qvz p l) (p a)=_
    rw[qfg p l,List.all_cons]
    cases p a <;> rfl
end Go.Ev
namespace Go.Ev
inductive Kl where
  | mv (x:Ar)
  | ld1 (x:Ar)
  | lda (n:Nat)(x:Ar)
  | fa (off:Nat)(x:Ar)
  | fd1 (off:Nat)(x:Ar)
  | fda (n off:Nat)(x:Ar)
  | ixs (sz:Nat)(x ix:Ar)
  | ixa (len sz:Nat)(x ix:Ar)
  | bi (op:BinOp)(x y:Ar)
  | ex (x:Ar)(i:Nat)
  | nt (x:Ar)
  | ln (x:Ar)
  | mf (fn:Fn)(a b:List Ar)
  | pk (c a b:Ar)
  | bd (zs:List AV)(ps:List (Nat × Nat × Ar))
  | gen
  | hv
section
variable (T:Ti)
def partK (t:TypeId):Option (Option Nat):=match T t with
  | some i=>if aggD i.desc then some (some i.size) else some none
  | none=>none
def fieldK (s:TypeId)(f:Nat):Option Field:=match T s with
  | some i=>match i.desc with
    | .struct fs=>fs[f]?
    | _=>none
  | none=>none
def compP (places:Nat→Option (Nat × Nat)):List (Nat × Operand)→Option (List (Nat × Nat × Ar))
  | []=>some []
  | p::l=>match places p.1,compA p.2,compP places l with
    | some q,some a,some r=>some ((q.1,q.2,a)::r)
    | _,_,_=>none
def qgf (i:TI):Nat→Option (Nat × Nat):=match i.desc with
  | .struct fs=>match placesA T fs.toList with
    | some places=>fun k=>places[k]?
    | none=>fun _=>none
  | .array _ e=>match T e with
    | some j=>fun k=>some (k*j.size,j.size)
    | none=>fun _=>none
  | _=>fun _=>none
def compU (o:Op):Kl:=match o with
  | .pick c x y=>match compA c,compA x,compA y with
    | some c,some a,some b=>.pk c a b
    | _,_,_=>.gen
  | .build t ps=>match ps.toList with
    | []=>.gen
    | p::l=>match T t with
      | some i=>match compP (qgf T i) (p::l) with
        | some r=>.bd (i.zero.map .lit) r
        | none=>.gen
      | none=>.gen
  | .move x | .assign x=>match compA x with
    | some a=>.mv a
    | none=>.gen
  | .load t x=>match compA x,partK T t with
    | some a,some (some n)=>.lda n a
    | some a,some none=>.ld1 a
    | _,_=>.gen
  | .fieldAddr s x f=>match compA x,fieldK T s f with
    | some a,some fd=>match T fd.type with
      | some j=>match Nat.beq j.size 0 with
        | true=>.gen
        | false=>.fa fd.offset a
      | none=>.gen
    | _,_=>.gen
  | .field s x f=>match compA x,fieldK T s f with
    | some a,some fd=>match partK T fd.type with
      | some (some n)=>.fda n fd.offset a
      | some none=>.fd1 fd.offset a
      | none=>.gen
    | _,_=>.gen
  | .indexAddr t x ix=>match compA x,compA ix,T t with
    | some a,some b,some i=>match i.desc with
      | .slice e=>match T e with
        | some j=>.ixs j.size a b
        | none=>.gen
      | .array len e=>match T e with
        | some j=>.ixa len j.size a b
        | none=>.gen
      | _=>.gen
    | _,_,_=>.gen
  | .binOp op t x y _=>match compA x,compA y with
    | some a,some b=>match T t with
      | some i=>match i.flat&&aggD i.desc with
        | true=>.gen
        | false=>.bi op a b
      | none=>.gen
    | _,_=>.gen
  | .unOp .not _ x=>match compA x with
    | some a=>.nt a
    | none=>.gen
  | .extract x i=>match compA x with
    | some a=>.ex a i
    | none=>.gen
  | .makeFunc f a b=>match compL a.toList,compL b.toList with
    | some a,some b=>.mf f a b
    | _,_=>.gen
  | .alloc _ | .box _ _ | .buildSlice _ _ _ | .makeSlice _ _ _ | .store _ _ _ | .mapUpdate _ _ _ _ | .lookup _ _ _ _ | .makeMap _ _ | .range _ _ | .next _ _ | .entry _=>.hv
  | .call c=>match c.callee with
    | .value _=>.hv
    | .builtin .append=>.hv
    | .builtin .len=>match c.args.toList,c.argTypes.toList with
      | [x],[t]=>match compA x,T t with
        | some a,some i=>match i.desc with
          | .slice _=>.ln a
          | _=>.gen
        | _,_=>.gen
      | _,_=>.gen
    | _=>.gen
  | _=>.gen
end
def compG (ops:Array Oper)(g:Nat × Bool):Option (Nat × Pa × Bool):=match ops[g.1]? with
  | some o=>match o.dst with
    | some d=>match Nat.blt d 1048575 with
      | true=>some (d,pth d,g.2)
      | false=>none
    | none=>none
  | none=>none
def qhs (a:AV):List AV:=match a with
  | .lit (.int k n)=>[.lit (.int k n)]
  | .lit (.bool b)=>[.lit (.bool b)]
  | .agg cs=>cs
  | .lit v=>v.cells.toList.map .lit
  | a=>[a]
theorem qkf (a:AV):qhs a=a.cells:=by
  cases a with
  | lit v=>cases v <;> rfl
  | _=>rfl
def natI (a:AV):Option Nat:=match a with
  | .lit (.int _ (.ofNat n))=>some n
  | _=>none
noncomputable def cellL (h:Hp)(id:Nat):Option (List AV):=match qb7 h id with
  | some (.cells _ _ cs)=>some cs
  | _=>none
noncomputable def aggL (n off:Nat)(cs:List AV):Option AV:=match Nat.ble (off+n) (qn2 cs) with
  | true=>some (.agg (qwf (dropL cs off) n))
  | false=>none
noncomputable def kLd1 (h:Hp)(a:AV):Option AV:=match a with
  | .ptr id off=>match cellL h id with
    | some cs=>nthL cs off
    | none=>none
  | _=>none
noncomputable def kLda (h:Hp)(n:Nat)(a:AV):Option AV:=match a with
  | .ptr id off=>match cellL h id with
    | some cs=>aggL n off cs
    | none=>none
  | _=>none
def kFa (off:Nat)(a:AV):Option AV:=match a with
  | .ptr id o=>some (.ptr id (o+off))
  | _=>none
noncomputable def kFd1 (off:Nat)(a:AV):Option AV:=match a with
  | .agg cs=>nthL cs off
  | _=>none
noncomputable def kFda (n off:Nat)(a:AV):Option AV:=match a with
  | .agg cs=>aggL n off cs
  | _=>none
def kIxs (sz:Nat)(a:AV)(n:Nat):Option AV:=match a with
  | .sl id off len sz' _=>match Nat.blt n len&&Nat.beq sz sz' with
    | true=>some (.ptr id (off+n*sz'))
    | false=>none
  | _=>none
def kIxa (len sz:Nat)(a:AV)(n:Nat):Option AV:=match a with
  | .ptr id off=>match Nat.blt n len with
    | true=>some (.ptr id (off+n*sz))
    | false=>none
  | _=>none
def bB (b:Bool):Option AV:=some (.lit (.bool b))
def bI (n:Nat):Option AV:=some (.lit (.int .i64 (.ofNat n)))
def binN (op:BinOp)(m n:Nat):Option AV:=match op with
  | .add=>match Nat.ble (m+n) 4611686018427387904 with
    | true=>bI (m+n)
    | false=>none
  | .sub=>match Nat.ble n m&&Nat.ble m 4611686018427387904 with
    | true=>bI (m - n)
    | false=>none
  | .eql=>bB (Nat.beq m n)
  | .neq=>bB (!Nat.beq m n)
  | .lss=>bB (Nat.blt m n)
  | .leq=>bB (Nat.ble m n)
  | .gtr=>bB (Nat.blt n m)
  | .geq=>bB (Nat.ble n m)
  | _=>none
def nat64 (a:AV):Option Nat:=match a with
  | .lit (.int .i64 (.ofNat n))=>some n
  | _=>none
def kBi (op:BinOp)(a b:AV):Option AV:=match nat64 a with
  | some m=>match nat64 b with
    | some n=>match binN op m n with
      | some r=>some r
      | none=>binA op a b
    | none=>binA op a b
  | none=>binA op a b
noncomputable def kEx (a:AV)(i:Nat):Option AV:=match a with
  | .tup vs=>nthL vs i
  | _=>none
def kNt (a:AV):Option AV:=match a with
  | .lit (.bool b)=>bB (!b)
  | _=>none
def kLn (a:AV):Option AV:=match a with
  | .sl _ _ n _ _=>bI n
  | .lit (.slice _ n _)=>bI n
  | _=>none
def kPk (c a b:AV):Option AV:=match c with
  | .lit (.bool true)=>some a
  | .lit (.bool false)=>some b
  | _=>none
noncomputable def qu2 (f:TF)(ps:List (Nat × Nat × Ar)):List AV→Option (List AV):=@List.rec (Nat × Nat × Ar) (fun _=>List AV→Option (List AV)) (fun cs=>some cs) (fun p _ ih cs=>match Nat.beq (qn2 (qhs (p.2.2.ev f))) p.2.1&&Nat.ble (p.1+p.2.1) (qn2 cs) with
  | true=>ih (qs4 (qhs (p.2.2.ev f)) cs p.1)
  | false=>none) ps
section
variable (T:Ti)
noncomputable def runK (ops:Array Oper)(h:Hp)(f:TF)(o:Oper)(k:Kl):Option AV:=match k with
  | .mv x=>some (x.ev f)
  | .ld1 x=>kLd1 h (x.ev f)
  | .lda n x=>kLda h n (x.ev f)
  | .fa off x=>kFa off (x.ev f)
  | .fd1 off x=>kFd1 off (x.ev f)
  | .fda n off x=>kFda n off (x.ev f)
  | .ixs sz x ix=>match natI (ix.ev f) with
    | some n=>kIxs sz (x.ev f) n
    | none=>none
  | .ixa len sz x ix=>match natI (ix.ev f) with
    | some n=>kIxa len sz (x.ev f) n
    | none=>none
  | .bi op x y=>kBi op (x.ev f) (y.ev f)
  | .ex x i=>kEx (x.ev f) i
  | .nt x=>kNt (x.ev f)
  | .ln x=>kLn (x.ev f)
  | .mf fn a b=>some (.fn fn (evL3 f a) (evL3 f b))
  | .pk c a b=>kPk (c.ev f) (a.ev f) (b.ev f)
  | .bd zs ps=>match qu2 f ps zs with
    | some cs=>some (.agg cs)
    | none=>none
  | .gen=>evG T h f.av o
  | .hv=>none
noncomputable def want3 (ops:Array Oper)(f:TF)(o:Oper):Bool:=match o.guard with
  | none=>true
  | some g=>match compG ops g with
    | some (d,p,b)=>@Bool.rec (fun _=>Bool) false (match goP p f.t with
      | .lit (.bool c)=>(match b with
        | true=>c
        | false=>!c)
      | _=>false) (Nat.blt d f.len)
    | none=>qhc ops f o
noncomputable def qjw (ops:Array Oper)(h:Hp)(f:TF)(o:Oper):Option AV:=match o.guard with
  | none=>runK T ops h f o (compU T o.op)
  | some _=>match want3 ops f o with
    | true=>runK T ops h f o (compU T o.op)
    | false=>some qb3
end
theorem qjc (h:Hp)(id:Nat):cellL h id=cellsAt h id:=by
  unfold cellL cellsAt
  rw[qfq]
  cases h.get id with
  | none=>rfl
  | some o=>cases o <;> rfl
theorem qp3 {a:AV}{n:Nat}(h:nat64 a=some n):a=.lit (.int .i64 (.ofNat n)):=by
  unfold nat64 at h
  split at h
  · cases h;rfl
  · cases h
theorem qvp (m n:Nat):((Int.ofNat m == Int.ofNat n):Bool)=Nat.beq m n:=by
  rw[Bool.eq_iff_iff,beq_iff_eq]
  exact⟨fun h=>by injection h with h;subst h;exact Nat.beq_refl m,fun h=>by rw[Nat.eq_of_beq_eq_true h]⟩
theorem lt_int (m n:Nat):decide (Int.ofNat m<Int.ofNat n)=Nat.blt m n:=by
  rw[Bool.eq_iff_iff,decide_eq_true_iff]
  exact⟨fun h=>Nat.ble_eq_true_of_le (Int.ofNat_lt.1 h),fun h=>Int.ofNat_lt.2 (Nat.le_of_ble_eq_true h)⟩
theorem le_int (m n:Nat):decide (Int.ofNat m≤Int.ofNat n)=Nat.ble m n:=by
  rw[Bool.eq_iff_iff,decide_eq_true_iff]
  exact⟨fun h=>Nat.ble_eq_true_of_le (Int.ofNat_le.1 h),fun h=>Int.ofNat_le.2 (Nat.le_of_ble_eq_true h)⟩
theorem in64 {n:Nat}(h:n≤4611686018427387904):wrp .i64 (Int.ofNat n)=Int.ofNat n:=by
  have h1:(0:Int)≤Int.ofNat n:=Int.natCast_nonneg n
  have h2:Int.ofNat n≤4611686018427387904:=Int.ofNat_le.2 h
  exact qir (by simp only [IntKind.lo];omega) (by simp only [IntKind.hi];omega)
theorem binN_ok {op:BinOp}{m n:Nat}{r:AV}(h:binN op m n=some r):binA op (.lit (.int .i64 (.ofNat m))) (.lit (.int .i64 (.ofNat n)))=some r:=by
  cases op <;> simp only [binN,bB,bI] at h
  case add =>
    split at h
    · rename_i hb
      cases h
      have:=Nat.le_of_ble_eq_true hb
      simp only [binA,if_true]
      rw[show Int.ofNat m+Int.ofNat n=Int.ofNat (m+n) from rfl,in64 this]
    · cases h
  case sub =>
    split at h
    · rename_i hb
      simp only [Bool.and_eq_true] at hb
      cases h
      have h1:=Nat.le_of_ble_eq_true hb.1
      have h2:=Nat.le_of_ble_eq_true hb.2
      simp only [binA,if_true]
      rw[show Int.ofNat m - Int.ofNat n=Int.ofNat (m - n) from(Int.ofNat_sub h1).symm,in64 (Nat.le_trans (Nat.sub_le m n) h2)]
    · cases h
  case eql=>cases h;simp only [binA,if_true,intCmpB,Option.map_some,qvp]
  case neq=>cases h;simp only [binA,if_true,intCmpB,Option.map_some,bne,qvp]
  case lss=>cases h;simp only [binA,if_true,intCmpB,Option.map_some,lt_int]
  case leq=>cases h;simp only [binA,if_true,intCmpB,Option.map_some,le_int]
  case gtr=>cases h;simp only [binA,if_true,intCmpB,Option.map_some,GT.gt,lt_int]
  case geq=>cases h;simp only [binA,if_true,intCmpB,Option.map_some,GE.ge,le_int]
  all_goals cases h
theorem kBi_eq (op:BinOp)(a b:AV):kBi op a b=binA op a b:=by
  unfold kBi
  split
  · rename_i m hm
    split
    · rename_i n hn
      split
      · rename_i r hr
        rw[qp3 hm,qp3 hn,binN_ok hr]
      · rfl
    · rfl
  · rfl
end Go.Ev
namespace Go.Ev
section
variable {T:Ti}
theorem partK_eq {t:TypeId}{q:Option Nat}(h:partK T t=some q)(cs:List AV)(off:Nat):partA T t cs off=match q with
    | some n=>aggL n off cs
    | none=>nthL cs off:=by
  unfold partK at h
  unfold partA
  cases hi:T t with
  | none=>rw[hi] at h;cases h
  | some i =>
    rw[hi] at h
    simp only at h ⊢
    by_cases ha:aggD i.desc=true
    · rw[if_pos ha] at h ⊢
      cases h
      simp only [aggL,qgz,qpk,qq3]
      by_cases hb:off+i.size≤cs.length
      · rw[if_pos hb,Nat.ble_eq_true_of_le hb]
      · rw[if_neg hb]
        have:Nat.ble (off+i.size) cs.length=false:=by
          cases hq:Nat.ble (off+i.size) cs.length with
          | false=>rfl
          | true=>exact absurd (Nat.le_of_ble_eq_true hq) hb
        rw[this]
    · rw[if_neg ha] at h ⊢
      cases h
      simp only [qjp]
theorem qns {s:TypeId}{f:Nat}{fd:Field}(h:fieldK T s f=some fd):∃ i fs,T s=some i∧i.desc=.struct fs∧fs[f]?=some fd:=by
  unfold fieldK at h
  split at h
  · rename_i i hi
    split at h
    · rename_i fs hd
      exact⟨i,fs,hi,hd,h⟩
    · cases h
  · cases h
theorem qcj {h:Hp}{ρ:Operand→AV}{o:Oper}(h1:∀ t x lo hi mx,o.op≠.slice t x lo hi mx)(h2:∀ t ps,o.op≠.build t ps)(h3:∀ op t x y yt,o.op≠.binOp op t x y yt):evG T h ρ o=evL T h ρ o:=by
  unfold evG
  split
  · rename_i hx;exact absurd hx (h1 _ _ _ _ _)
  · rename_i hx;exact absurd hx (h2 _ _)
  · rename_i hx;exact absurd hx (h3 _ _ _ _ _)
  · rename_i hx;exact absurd hx (h3 _ _ _ _ _)
  · rfl
theorem fill3_eq {pl:Nat→Option (Nat × Nat)}:∀ {ps:List (Nat × Operand)}{r:List (Nat × Nat × Ar)},compP pl ps=some r→∀ (f:TF)(cs:List AV),qu2 f r cs=fillA pl cs (ps.map fun p=>(p.1,f.av p.2))
  | [],r,h,f,cs=>by cases h;rfl
  | p::l,r,h,f,cs=>by
    simp only [compP] at h
    split at h
    · rename_i q a r' hq ha hr
      cases h
      show(match Nat.beq (qn2 (qhs (a.ev f))) q.2&&Nat.ble (q.1+q.2) (qn2 cs) with
        | true=>qu2 f r' (qs4 (qhs (a.ev f)) cs q.1)
        | false=>none)=_
      simp only [List.map_cons,fillA,hq,qgz,qkf,ql1,qba ha,fill3_eq hr]
      by_cases hc:(f.av p.2).cells.length≠q.2∨q.1+(f.av p.2).cells.length>cs.length
      · rw[if_pos hc]
        split
        · rename_i hb
          simp only [Bool.and_eq_true] at hb
          have h1:=Nat.eq_of_beq_eq_true hb.1
          have h2:=Nat.le_of_ble_eq_true hb.2
          omega
        · rfl
      · rw[if_neg hc]
        have h1:(f.av p.2).cells.length=q.2:=by omega
        have h2:q.1+q.2≤cs.length:=by omega
        rw[h1,Nat.beq_refl,Nat.ble_eq_true_of_le h2]
        rfl
    · cases h
theorem qvl {t:TypeId}{i:TI}{p:Nat × Operand}{l:List (Nat × Operand)}{r:List (Nat × Nat × Ar)}(hi:T t=some i)(h:compP (qgf T i) (p::l)=some r)(f:TF) :
    buildA T t ((p::l).map fun p=>(p.1,f.av p.2))=(qu2 f r (i.zero.map .lit)).map .agg:=by
  rw[fill3_eq h]
  have hno:(qgf T i=fun _=>none)→False:=fun hn=>by
    rw[hn] at h
    simp[compP] at h
  unfold buildA
  simp only [hi]
  cases hd:i.desc with
  | struct fs =>
    simp only
    cases hp:placesA T fs.toList with
    | none=>exact(hno (by unfold qgf;simp only [hd,hp])).elim
    | some places =>
      have:qgf T i=fun k=>places[k]?:=by unfold qgf;simp only [hd,hp]
      rw[this]
  | array n e =>
    simp only
    cases hp:T e with
    | none=>exact(hno (by unfold qgf;simp only [hd,hp])).elim
    | some j =>
      have:qgf T i=fun k=>some (k*j.size,j.size):=by unfold qgf;simp only [hd,hp]
      rw[this]
  | _=>exact(hno (by unfold qgf;simp only [hd])).elim
theorem qta (ops:Array Oper)(h:Hp)(f:TF)(o:Oper):runK T ops h f o (compU T o.op)=evG T h f.av o:=by
  have gen:runK T ops h f o .gen=evG T h f.av o:=rfl
  obtain⟨dst,op,ty,pos,after,guard⟩:=o
  cases op with
  | move x =>
    simp only [compU]
    split
    · rename_i a ha
      rw[qcj (by simp) (by simp) (by simp)]
      simp only [runK,evL,qba ha]
    · exact gen
  | assign x =>
    simp only [compU]
    split
    · rename_i a ha
      rw[qcj (by simp) (by simp) (by simp)]
      simp only [runK,evL,qba ha]
    · exact gen
  | load t x =>
    simp only [compU]
    split
    · rename_i a n ha hp
      rw[qcj (by simp) (by simp) (by simp)]
      simp only [runK,evL,qba ha,kLda,loadA]
      cases f.av x with
      | ptr id off =>
        simp only [qjc]
        cases cellsAt h id with
        | none=>rfl
        | some cs=>simp only;rw[partK_eq hp]
      | _=>rfl
    · rename_i a ha hp
      rw[qcj (by simp) (by simp) (by simp)]
      simp only [runK,evL,qba ha,kLd1,loadA]
      cases f.av x with
      | ptr id off =>
        simp only [qjc]
        cases cellsAt h id with
        | none=>rfl
        | some cs=>simp only;rw[partK_eq hp]
      | _=>rfl
    · exact gen
  | fieldAddr s x fi =>
    simp only [compU]
    split
    · rename_i a fd ha hf
      split
      · rename_i j hj
        split
        · exact gen
        · rename_i hz
          obtain⟨i,fs,h1,h2,h3⟩:=qns hf
          have hz':¬ j.size=0:=Nat.ne_of_beq_eq_false hz
          rw[qcj (by simp) (by simp) (by simp)]
          simp only [runK,evL,qba ha,kFa]
          cases f.av x <;> simp[h1,h2,h3,hj,hz']
      · exact gen
    · exact gen
  | field s x fi =>
    simp only [compU]
    split
    · rename_i a fd ha hf
      obtain⟨i,fs,h1,h2,h3⟩:=qns hf
      split
      · rename_i n hp
        rw[qcj (by simp) (by simp) (by simp)]
        simp only [runK,evL,qba ha,kFda]
        cases f.av x <;> simp[h1,h2,h3]
        rw[partK_eq hp]
      · rename_i hp
        rw[qcj (by simp) (by simp) (by simp)]
        simp only [runK,evL,qba ha,kFd1]
        cases f.av x <;> simp[h1,h2,h3]
        rw[partK_eq hp]
      · exact gen
    · exact gen
  | indexAddr t x ix =>
    simp only [compU]
    split
    · rename_i a b i ha hb hi
      split
      · rename_i e hd
        split
        · rename_i j hj
          rw[qcj (by simp) (by simp) (by simp)]
          simp only [runK,evL,qba ha,qba hb]
          cases f.av ix with
          | lit v =>
            cases v with
            | int k n =>
              cases n with
              | ofNat n =>
                simp only [natI,kIxs]
                cases f.av x with
                | sl id off len sz ex =>
                  simp only [hi,hd,hj]
                  by_cases hc:n<len∧j.size=sz
                  · rw[if_pos ⟨Int.natCast_nonneg n,Int.ofNat_lt.2 hc.1,hc.2⟩,show Nat.blt n len=true from Nat.ble_eq_true_of_le hc.1,hc.2,Nat.beq_refl]
                    rfl
                  · rw[if_neg (fun hq=>hc ⟨Int.ofNat_lt.1 hq.2.1,hq.2.2⟩)]
                    split
                    · rename_i hq
                      simp only [Bool.and_eq_true] at hq
                      exact absurd ⟨Nat.le_of_ble_eq_true hq.1,Nat.eq_of_beq_eq_true hq.2⟩ hc
                    · rfl
                | _=>simp only [hi,hd]
              | negSucc n =>
                simp only [natI]
                cases f.av x with
                | sl id off len sz ex=>simp only [hi,hd,hj];rw[if_neg (fun hq=>by have:=hq.1;exact absurd this (by simp))]
                | _=>simp only [hi,hd]
            | _=>simp only [natI,hi]
          | _=>simp only [natI,hi]
        · exact gen
      · rename_i len e hd
        split
        · rename_i j hj
          rw[qcj (by simp) (by simp) (by simp)]
          simp only [runK,evL,qba ha,qba hb]
          cases f.av ix with
          | lit v =>
            cases v with
            | int k n =>
              cases n with
              | ofNat n =>
                simp only [natI,kIxa]
                cases f.av x with
                | ptr id off =>
                  simp only [hi,hd,hj]
                  by_cases hc:n<len
                  · rw[if_pos ⟨Int.natCast_nonneg n,Int.ofNat_lt.2 hc⟩,show Nat.blt n len=true from Nat.ble_eq_true_of_le hc]
                    rfl
                  · rw[if_neg (fun hq=>hc (Int.ofNat_lt.1 hq.2))]
                    split
                    · rename_i hq
                      exact absurd (Nat.le_of_ble_eq_true hq) hc
                    · rfl
                | _=>simp only [hi,hd]
              | negSucc n =>
                simp only [natI]
                cases f.av x with
                | ptr id off=>simp only [hi,hd,hj];rw[if_neg (fun hq=>by have:=hq.1;exact absurd this (by simp))]
                | _=>simp only [hi,hd]
            | _=>simp only [natI,hi]
          | _=>simp only [natI,hi]
        · exact gen
      · exact gen
    · exact gen
  | binOp op t x y yt =>
    simp only [compU]
    split
    · rename_i a b ha hb
      split
      · rename_i i hi
        split
        · exact gen
        · rename_i hc
          have hE:evG T h f.av ⟨dst,.binOp op t x y yt,ty,pos,after,guard⟩=binA op (f.av x) (f.av y):=by
            cases op <;> simp only [evG,evL,hi,hc,Bool.false_eq_true,if_false]
          rw[hE]
          simp only [runK,qba ha,qba hb,kBi_eq]
      · exact gen
    · exact gen
  | unOp op t x =>
    cases op with
    | not =>
      simp only [compU]
      split
      · rename_i a ha
        rw[qcj (by simp) (by simp) (by simp)]
        simp only [runK,evL,qba ha]
        cases f.av x with
        | lit v=>cases v <;> rfl
        | _=>rfl
      · exact gen
    | _=>exact gen
  | extract x i =>
    simp only [compU]
    split
    · rename_i a ha
      rw[qcj (by simp) (by simp) (by simp)]
      simp only [runK,evL,qba ha,kEx]
      cases f.av x with
      | tup vs=>simp only [qjp]
      | _=>rfl
    · exact gen
  | makeFunc g a b =>
    simp only [compU]
    split
    · rename_i as bs ha hb
      rw[qcj (by simp) (by simp) (by simp)]
      simp only [runK,evL,qi9 ha,qi9 hb]
    · exact gen
  | call c =>
    simp only [compU]
    split
    · rename_i g hg
      rw[qcj (by simp) (by simp) (by simp)]
      simp only [runK,evL,hg]
    · rename_i hg
      rw[qcj (by simp) (by simp) (by simp)]
      simp only [runK,evL,hg]
    · rename_i hg
      split
      · rename_i x t ha ht
        split
        · rename_i a i hx hi
          split
          · rename_i e hd
            rw[qcj (by simp) (by simp) (by simp)]
            simp only [runK,evL,hg,ha,ht,qba hx,kLn]
            cases f.av x with
            | sl=>simp only [hi,hd];rfl
            | lit v=>cases v <;> simp only [hi,hd] <;> rfl
            | _=>simp only [hi,hd]
          · exact gen
        · exact gen
      · exact gen
    · exact gen
  | pick c x y =>
    simp only [compU]
    split
    · rename_i c' a b hc ha hb
      rw[qcj (by simp) (by simp) (by simp)]
      simp only [runK,evL,qba hc,qba ha,qba hb,kPk]
      cases f.av c with
      | lit v =>
        cases v with
        | bool b=>cases b <;> rfl
        | _=>rfl
      | _=>rfl
    · exact gen
  | build t ps =>
    simp only [compU]
    split
    · exact gen
    · rename_i p l hps
      split
      · rename_i i hi
        split
        · rename_i r hr
          simp only [runK,evG,hps,qvl hi hr]
          cases qu2 f r (i.zero.map .lit) <;> rfl
        · exact gen
      · exact gen
  | alloc | box | buildSlice | makeSlice | store | mapUpdate | lookup | makeMap | range | next | entry =>
    rw[qcj (by simp) (by simp) (by simp)]
    simp only [compU,runK,evL]
  | _=>exact gen
theorem qlw (ops:Array Oper)(f:TF)(o:Oper):want3 ops f o=qhc ops f o:=by
  unfold want3
  cases hg:o.guard with
  | none=>unfold qhc;rw[hg]
  | some g =>
    simp only
    split
    · rename_i d p b hc
      unfold compG at hc
      split at hc
      · rename_i q hq
        split at hc
        · rename_i d' hd
          split at hc
          · rename_i hlt
            cases hc
            have hlt : @LT.lt Nat _ d 1048575:=Nat.le_of_ble_eq_true hlt
            unfold qhc
            rw[hg]
            simp only [Region.wanted,hg,TF.y,hq,Option.bind_some,hd,pth]
            rw[qqs 20 f.t d (by omega)]
            cases Nat.blt d f.len with
            | false=>rfl
            | true =>
              simp only
              cases f.t.get d with
              | lit v =>
                cases v with
                | bool c=>cases c <;> cases g.2 <;> rfl
                | _=>rfl
              | _=>rfl
          · cases hc
        · cases hc
      · cases hc
    · rfl
theorem qhm (ops:Array Oper)(h:Hp)(f:TF)(o:Oper):qjw T ops h f o=lightT T ops h f o:=by
  unfold qjw lightT
  rw[qlw]
  cases hg:o.guard with
  | none =>
    have:qhc ops f o=true:=by unfold qhc;rw[hg]
    rw[this]
    exact qta ops h f o
  | some g =>
    cases qhc ops f o with
    | true=>exact qta ops h f o
    | false=>rfl
end
end Go.Ev
namespace Go.Ev
inductive Kh where
  | al (cs:List AV)
  | bx (x:Ar)
  | sr (n:Nat)(p v:Ar)
  | cl (g:Ar)(as:List Ar)
  | gen
section
variable (T:Ti)
def compH (o:Op):Kh:=match o with
  | .alloc e=>match T e with
    | some i=>.al (i.zero.map .lit)
    | none=>.gen
  | .box _ x=>match compA x with
    | some a=>.bx a
    | none=>.gen
  | .store t p v=>match compA p,compA v,T t with
    | some a,some b,some i=>.sr i.size a b
    | _,_,_=>.gen
  | .call c=>match c.callee with
    | .value g=>match compA g,compL c.args.toList with
      | some a,some as=>.cl a as
      | _,_=>.gen
    | _=>.gen
  | _=>.gen
end
def oneF (a:AV):Bool:=match a with
  | .lit (.int _ _)=>true
  | .lit (.bool _)=>true
  | a=>a.one
theorem oneF_eq (a:AV):oneF a=a.one:=by
  cases a with
  | lit v=>cases v <;> rfl
  | _=>rfl
noncomputable def storeF (st:St)(n:Nat)(p v:AV):Option St:=match p with
  | .ptr id off=>match qb7 st.h id with
    | some (.cells none false cs)=>match Nat.beq (qn2 (qhs v)) n&&(Nat.ble (off+n) (qn2 cs)&&qvz oneF (qhs v)) with
      | true=>some ⟨qvw st.h id (.cells none false (qs4 (qhs v) cs off)),st.n⟩
      | false=>none
    | _=>none
  | _=>none
theorem qvu:∀ l:List AV,qvz oneF l=l.all AV.one:=fun l=>by
  rw[qfg,show oneF=AV.one from funext oneF_eq]
theorem qsu {T:Ti}{t:TypeId}{i:TI}(h:T t=some i)(st:St)(p v:AV):storeF st i.size p v=storeA T st t p v:=by
  unfold storeF storeA
  cases p with
  | ptr id off =>
    simp only [h,qfq]
    cases st.h.get id with
    | none=>rfl
    | some o =>
      cases o with
      | cells fam ro cs =>
        cases fam with
        | some f=>rfl
        | none =>
          cases ro with
          | true=>rfl
          | false =>
            simp only [qgz,qvu,qkf,ql1,qj0]
            by_cases hc:v.cells.length=i.size∧off+i.size≤cs.length∧v.cells.all AV.one
            · rw[if_pos hc,hc.1,Nat.beq_refl,Nat.ble_eq_true_of_le hc.2.1,hc.2.2]
              rfl
            · rw[if_neg hc]
              split
              · rename_i hq
                simp only [Bool.and_eq_true] at hq
                exact absurd ⟨Nat.eq_of_beq_eq_true hq.1,Nat.le_of_ble_eq_true hq.2.1,hq.2.2⟩ hc
              · rfl
      | _=>rfl
  | _=>rfl
section
variable (T:Ti)(X:St→(Operand→AV)→Oper→Option (List (AV × St)))(call:qcy)
noncomputable def runH (st:St)(f:TF)(o:Oper)(k:Kh):Option (List (AV × St)):=match k with
  | .al cs=>some [(.ptr st.n 0,⟨(st.n,.cells none false cs)::st.h,st.n+1⟩)]
  | .bx x=>some [(.ptr st.n 0,⟨(st.n,.cells none false (qhs (x.ev f)))::st.h,st.n+1⟩)]
  | .sr n p v=>match storeF st n (p.ev f) (v.ev f) with
    | some s=>some [(qb3,s)]
    | none=>X st f.av o
  | .cl g as=>call (g.ev f) (evL3 f as) st
  | .gen=>heavy T X call st f.av o
noncomputable def qqq (st:St)(f:TF)(o:Oper):Option (List (AV × St)):=runH T X call st f o (compH T o.op)
variable {T X call}
theorem qnl (st:St)(f:TF)(o:Oper):qqq T X call st f o=heavy T X call st f.av o:=by
  unfold qqq
  have gen:runH T X call st f o .gen=heavy T X call st f.av o:=rfl
  obtain⟨dst,op,ty,pos,after,guard⟩:=o
  cases op with
  | alloc e =>
    simp only [compH]
    split
    · rename_i i hi
      simp only [runH,heavy,evF,hi,Option.map_some]
      rfl
    · exact gen
  | box t x =>
    simp only [compH]
    split
    · rename_i a ha
      simp only [runH,heavy,evF,Option.map_some,qba ha,qkf]
      rfl
    · exact gen
  | store t p v =>
    simp only [compH]
    split
    · rename_i a b i ha hb hi
      simp only [runH,heavy,storeO,qba ha,qba hb,qsu hi]
      cases storeA T st t (f.av p) (f.av v) <;> rfl
    · exact gen
  | call c =>
    simp only [compH]
    split
    · rename_i g hg
      split
      · rename_i a as ha hb
        simp only [runH,heavy,hg,qba ha,qi9 hb]
      · exact gen
    · exact gen
  | _=>exact gen
end
def bind3 {α β:Type}(l:List α)(g:α→Option (List β)):Option (List β):=match l with
  | [x]=>g x
  | l=>bindL l g
theorem qeg {α β:Type}(l:List α)(g:α→Option (List β)):bind3 l g=bindL l g:=by
  unfold bind3
  split
  · rename_i x
    simp only [bindL]
    cases g x <;> simp
  · rfl
section
variable (T:Ti)(X:St→(Operand→AV)→Oper→Option (List (AV × St)))(call:qcy)
noncomputable def stepL (ops:Array Oper)(o:Oper)(ih:TF→St→Option (List (TF × St)))(f:TF)(st:St):Option (List (TF × St)):=match qjw T ops st.h f o with
  | some r=>ih (putF (compD o.dst) f r) st
  | none=>match qhh o&&want3 ops f o with
    | true=>match qqq T X call st f o with
      | some outs=>bind3 outs fun x=>ih (putF (compD o.dst) f x.1) x.2
      | none=>none
    | false=>none
noncomputable def qqy (ops:Array Oper)(l:List Oper):TF→St→Option (List (TF × St)):=@List.rec Oper (fun _=>TF→St→Option (List (TF × St))) (fun f st=>some [(f,st)]) (fun o _ ih=>stepL T X call ops o ih) l
variable {T X call}
theorem qnt (ops:Array Oper):∀ (l:List Oper)(f:TF)(st:St),qqy T X call ops l f st=evOps2 T X call ops l f st
  | [],f,st=>rfl
  | o::l,f,st=>by
    have hih:∀ f st,qqy T X call ops l f st=evOps2 T X call ops l f st:=qnt ops l
    show stepL T X call ops o (qqy T X call ops l) f st=_
    simp only [stepL,evOps2,qhm,qnl,qlw,qtn,qeg,hih]
    rfl
end
end Go.Ev
namespace Go.Ev
section
variable (T:Ti)(X:St→(Operand→AV)→Oper→Option (List (AV × St)))(call:qcy)
noncomputable def pend3 (ops:Array Oper)(qag:List (Nat × AV))(f:TF)(h:Hp):Bool:=qag.all fun p=>match ops[p.1]? with
  | none=>false
  | some o=>match qjw T ops h f o with
    | some r=>avEq r p.2
    | none=>false
noncomputable def pick3 (ops:Array Oper)(L:Nat)(h:Hp)(f:TF)(l:List En):Option (En × AV):=@List.rec En (fun _=>Option (En × AV)) none (fun x _ ih=>@Bool.rec (fun _=>Option (En × AV)) ih (match qjw T ops h f x.o with
  | some r=>some (x,r)
  | none=>ih) (x.fr&&qrn L x)) l
variable {T X call}
theorem qpx (ops:Array Oper)(qag:List (Nat × AV))(f:TF)(h:Hp):pend3 T ops qag f h=pendOkT T ops qag f h:=by
  unfold pend3 pendOkT
  simp only [qhm]
  rfl
theorem qpw (ops:Array Oper)(L:Nat)(h:Hp)(f:TF):∀ l:List En,pick3 T ops L h f l=pickE T ops L h f l
  | []=>rfl
  | x::l=>by
    have ih:=qpw ops L h f l
    show @Bool.rec (fun _=>Option (En × AV)) (pick3 T ops L h f l) (match qjw T ops h f x.o with
      | some r=>some (x,r)
      | none=>pick3 T ops L h f l) (x.fr&&qrn L x)=_
    rw[ih,qhm,pickE]
    cases x.fr&&qrn L x <;> rfl
end
end Go.Ev
