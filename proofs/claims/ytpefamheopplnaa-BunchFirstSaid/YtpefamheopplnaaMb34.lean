/- Own work of the verifier of watercress: FzC5, FzC4, FzC6, FzC7, FzC8, FzC9, FzC10, FzC11, FzC12. -/
import Derived.Test.YtpefamheopplnaaMb33
import Derived.Maps.Keyed
import Derived.Maps.RangeRun
import Derived.DeepKeys4
import Derived.Test.YtpefamheopplnaaMb29
set_option linter.unusedVariables false
set_option linter.unusedSimpArgs false
namespace Go.Fz
open Go.Proofs
set_option maxRecDepth 100000
section
variable {P:Program}{T:Ti}
def mkAt (ops:Array Oper)(i:Nat)(f:Fm):Option (TypeId × AV × AV):=match ops[i]? with
  | none=>none
  | some o=>match wantA ops f.ts o with
    | some true=>match o.op with
      | .makeSlice t l c=>some (t,Operand.av f.ts l,Operand.av f.ts c)
      | _=>none
    | _=>none
def intsB (T:Ti)(t:TypeId):Bool:=match T t with
  | some i=>match i.desc with
    | .slice e=>match T e with
      | some j=>Nat.beq j.size 1&&Nat.ble j.bytes 65536&&(match j.zero with | [.int .i64 0]=>true | _=>false)
      | none=>false
    | _=>false
  | none=>false
theorem qrb {j:TI}(hz:j.zero=[.int .i64 0])(n:Nat):qc7 j (n*1)=flatG 1 (qb6 fun _=>0) n:=by
  apply List.ext_getElem?
  intro q
  unfold qc7
  rw[hz,Nat.mul_one]
  by_cases hq:q<n
  · have h2:=qc2 1 (qb6 fun _=>0) n q 0 hq (by omega)
    rw[Nat.mul_one,Nat.add_zero] at h2
    rw[h2]
    simp[hq,Nat.mod_one,qb6,iV]
  · rw[List.getElem?_eq_none (by simp;omega),List.getElem?_eq_none (by rw[qaj];omega)]
theorem qac.mkInts (hT:TOk P T){rd:Option Nat}{ops:Array Oper}{K:Fm→St→Prop}{f:Fm}{st:St}{i:Nat}{l:List Nat}{t N:Nat}(hx:mkAt ops i f=some (t,.lit (.int .i64 (Int.ofNat N)),.lit (.int .i64 (Int.ofNat N))))(hb:intsB T t=true)(hN:N≤65536)
    (h:qac P rd ops l K (putAt ops i f (.sl st.n 0 N 1 true)) (st.push (.cells none false (flatG 1 (qb6 fun _=>0) N)))):qac P rd ops (i::l) K f st:=by
  unfold mkAt at hx
  split at hx
  · cases hx
  · rename_i o ho
    split at hx
    · rename_i hw
      split at hx
      · rename_i t' a b hop
        simp only [Option.some.injEq,Prod.mk.injEq] at hx
        obtain⟨rfl,e2,e3⟩:=hx
        have hput:∀ v,putAt ops i f v=f.put o.dst v:=fun v=>by simp[putAt,ho]
        rw[hput] at h
        unfold intsB at hb
        split at hb
        · rename_i ti hti
          split at hb
          · rename_i e he
            split at hb
            · rename_i j hj
              simp only [Bool.and_eq_true] at hb
              obtain⟨⟨b1,b2⟩,b3⟩:=hb
              have hz:j.zero=[.int .i64 0]:=by
                split at b3
                · assumption
                · cases b3
              have hs:=Nat.eq_of_beq_eq_true b1
              refine qac.fresh hT ho hw ?_ h
              simp only [evF,hop,e2,e3,hti,he,hj]
              have h0:(0:Int)≤Int.ofNat N:=Int.natCast_nonneg N
              rw[if_pos ⟨h0,Int.le_refl _,Int.ofNat_le.2 hN,Nat.le_of_ble_eq_true b2,by omega,by rw[hz,hs];rfl⟩,hs]
              show some (AV.sl st.n 0 N 1 (Int.ofNat N == Int.ofNat N),qc7 j (N*1))=_
              rw[qrb hz];simp
            · cases hb
          · cases hb
        · cases hb
      · cases hx
    · cases hx
end
section
variable {α:Type}
def chB (d:qai)(lp:AObj)(h0:Hp):Hp:=(6,lp)::(5,.dfr)::(4,.cells none false (qgc d))::h0
def chMid (d:qai)(NN:Nat)(lp:AObj)(h0:Hp)(e:Exit)(fm:Fm)(st:St):Prop:=e=.normal∧∃ g,fm=⟨⟨18,g⟩,[]⟩∧g 2=.ptr 49 0 ∧
  ((g 3=.ptr 50 0∧g 4=.ptr 51 0∧st=⟨(51,.cells none false [iV d.nw])::(50,.cells none false [.isl NN 2 false (rngC d.ulo d.uhi)])::(49,.cells none false [.yld 6])::chB d lp h0,52⟩) ∨
   (g 3=.ptr 51 0∧g 4=.ptr 50 0∧st=⟨(51,.cells none false [.isl NN 2 false (rngC d.ulo d.uhi)])::(50,.cells none false [iV d.nw])::(49,.cells none false [.yld 6])::chB d lp h0,52⟩))
theorem qpj {d:qai}(g:d.Good):∀ m,m<d.nw+d.nl→0≤d.ulo m∧d.ulo m≤d.uhi m∧d.uhi m≤5000:=fun i hi=>by
  unfold qai.ulo qai.uhi
  by_cases hc:i<d.nw
  · have:=g.wom i hc
    simp only [hc,if_true];omega
  · have:=g.lot (i - d.nw) (by omega)
    simp only [hc,if_false];omega
set_option maxHeartbeats 8000000 in
theorem qo4 (ok:α→Prop)(K:α→Hp→Nat→Prop)(next:α→(Nat→Int)→α)(d:qai)(gd:d.Good)(lp:AObj)(h0:Hp)(a0:α)
    (hid:∀ a h n,K a h n→49≤n∧∀ id o,h.get id=some o→id<n∧(id<49∨55≤id))(hK:K a0 (chB d lp h0) 55)(hall:allE ok next (d.nw+d.nl) d.ulo d.uhi (d.nw+d.nl) 0 (fun _=>0) a0)
    (step:∀ qbm a h n,(∀ m,m<d.nw+d.nl→d.ulo m≤qbm m∧qbm m≤d.uhi m)→ok a→K a h n→qbb Try.prog 6 [qwc (qea (d.nw+d.nl) qbm) d.nw d.nl] ⟨chH 6 (d.nw+d.nl) d.nw d.ulo d.uhi (flatG 1 (qb6 qbm) (d.nw+d.nl)) h,n⟩ (chQ K (fun _ _=>False) 6 (d.nw+d.nl) d.nw d.ulo d.uhi (fun f=>f=qbm) (next a (qea (d.nw+d.nl) qbm))))
    (steps:∀ qbm a h n,(∀ m,m<d.nw+d.nl→d.ulo m≤qbm m∧qbm m≤d.uhi m)→ok a→K a h n→qbb Try.prog 6 [qwc (qea (d.nw+d.nl) qbm) d.nw d.nl] ⟨qvy 6 (d.nw+d.nl) d.nw d.ulo d.uhi (flatG 1 (qb6 qbm) (d.nw+d.nl)) h,n⟩ (chQs K (fun _ _=>False) 6 (d.nw+d.nl) d.nw d.ulo d.uhi (fun f=>f=qbm) (next a (qea (d.nw+d.nl) qbm)))) :
    qax Try.prog 122 [.yld 6,.ptr 4 0] ⟨chB d lp h0,7⟩ (fun _ st'=>∃ h n,st'=⟨h,n⟩∧K (qfs next (d.nw+d.nl) d.ulo d.uhi (d.nw+d.nl) 0 (fun _=>0) a0) h n):=by
  obtain⟨O,hO⟩:∃ O:Ar,O=std:=⟨_,rfl⟩
  have hnw:=gd.nw
  have hnl:=gd.nl
  have hpos:=gd.pos
  have hub:=qpj gd
  have hN8:d.nw+d.nl - d.nw=d.nl:=by omega
  refine qax.pad (n:=49) (by show 7≤49;omega) ?_
  refine qax.weak (k1:=fun _ st'=>∃ R h n,(∀ id o,Hp.get R id=some o→49≤id∧id<55)∧st'=⟨R++h,n⟩∧K (qfs next (d.nw+d.nl) d.ulo d.uhi (d.nw+d.nl) 0 (fun _=>0) a0) h n∧49≤n) ?_ (fun v st1 ⟨R,h,n,hR,hs,hk,hn⟩=>.inr ⟨.any,⟨h,n⟩,⟨.inl rfl,hn,by rw[hs];exact Nat.le_refl _,fun id o ho=>?_⟩,h,n,rfl,hk⟩)
  rotate_left
  · obtain⟨k1,k2⟩:=(hid _ h n hk).2 id o ho
    refine⟨?_,k1,.inl (by rw[hs])⟩
    rw[hs]
    show Hp.get (R++h) id=some o
    rw[Hp.get_app]
    cases hg:Hp.get R id with
    | none=>exact ho
    | some o'=>have:=hR id o' hg;omega
  refine qat tok Try.func122 rfl ?_
  have hunk:=qjd d hpos hnw hnl
  obtain⟨NN,hNN⟩:∃ NN,d.nw+d.nl=NN:=⟨_,rfl⟩
  rw[hNN] at hunk
  refine SW.qab tok hO (by cbv <;> rfl) (by trivial) ?_
  refine SW.seq (SW.mono (Q:=chMid d NN lp h0) ?_ ?_)
  · refine SW.runD tok mixed hO (by kernel_rfl) (by cbv <;> rfl) (by trivial) ?_
    refine AnyE.many [1,5,6] (by cbv <;> rfl) (by rfl) ⟨?_,?_,?_,trivial⟩
    · refine qd9.callQ hunk (by cbv <;> rfl) (by cbv <;> rfl) ?_ ?_
      · exact(by repeat (first | exact trivial | refine And.intro (by first | exact qby hO (by cbv <;> rfl) (by trivial) | (cbv <;> rfl)) ?_))
      refine AnyE.run tok hO (by rfl) (by cbv <;> rfl) (by trivial) ?_
      refine AnyE.many [5,6] (by cbv <;> rfl) (by rfl) ⟨?_,?_,trivial⟩
      · refine qd9.eff tok hO (by cbv <;> rfl) (by cbv <;> rfl) (by trivial) ?_ ?_
        · exact(by repeat (first | exact trivial | refine And.intro (by first | exact qby hO (by cbv <;> rfl) (by trivial) | (cbv <;> rfl)) ?_))
        refine AnyE.run tok hO (by rfl) (by cbv <;> rfl) (by trivial) ?_
        refine AnyE.qey tok hO (by cbv <;> rfl) (by cbv <;> rfl) (by trivial) ?_ ?_
        · exact(by repeat (first | exact trivial | refine And.intro (by first | exact qby hO (by cbv <;> rfl) (by trivial) | (cbv <;> rfl)) ?_))
        refine AnyE.run tok hO (by rfl) (by cbv <;> rfl) (by trivial) ?_
        refine AnyE.qey tok hO (by cbv <;> rfl) (by cbv <;> rfl) (by trivial) ?_ ?_
        · exact(by repeat (first | exact trivial | refine And.intro (by first | exact qby hO (by cbv <;> rfl) (by trivial) | (cbv <;> rfl)) ?_))
        refine AnyE.run tok hO (by rfl) (by cbv <;> rfl) (by trivial) ?_
        refine AnyE.qey tok hO (by cbv <;> rfl) (by cbv <;> rfl) (by trivial) ?_ ?_
        · exact(by repeat (first | exact trivial | refine And.intro (by first | exact qby hO (by cbv <;> rfl) (by trivial) | (cbv <;> rfl)) ?_))
        refine AnyE.run tok hO (by rfl) (by cbv <;> rfl) (by trivial) ?_
        exact⟨rfl,_,rfl,rfl,.inl ⟨rfl,rfl,rfl⟩⟩
      · refine qd9.eff tok hO (by cbv <;> rfl) (by cbv <;> rfl) (by trivial) ?_ ?_
        · exact(by repeat (first | exact trivial | refine And.intro (by first | exact qby hO (by cbv <;> rfl) (by trivial) | (cbv <;> rfl)) ?_))
        refine AnyE.run tok hO (by rfl) (by cbv <;> rfl) (by trivial) ?_
        refine AnyE.qey tok hO (by cbv <;> rfl) (by cbv <;> rfl) (by trivial) ?_ ?_
        · exact(by repeat (first | exact trivial | refine And.intro (by first | exact qby hO (by cbv <;> rfl) (by trivial) | (cbv <;> rfl)) ?_))
        refine AnyE.run tok hO (by rfl) (by cbv <;> rfl) (by trivial) ?_
        refine AnyE.qey tok hO (by cbv <;> rfl) (by cbv <;> rfl) (by trivial) ?_ ?_
        · exact(by repeat (first | exact trivial | refine And.intro (by first | exact qby hO (by cbv <;> rfl) (by trivial) | (cbv <;> rfl)) ?_))
        refine AnyE.run tok hO (by rfl) (by cbv <;> rfl) (by trivial) ?_
        refine AnyE.qey tok hO (by cbv <;> rfl) (by cbv <;> rfl) (by trivial) ?_ ?_
        · exact(by repeat (first | exact trivial | refine And.intro (by first | exact qby hO (by cbv <;> rfl) (by trivial) | (cbv <;> rfl)) ?_))
        refine AnyE.run tok hO (by rfl) (by cbv <;> rfl) (by trivial) ?_
        exact⟨rfl,_,rfl,rfl,.inr ⟨rfl,rfl,rfl⟩⟩
    · refine qd9.eff tok hO (by cbv <;> rfl) (by cbv <;> rfl) (by trivial) ?_ ?_
      · exact(by repeat (first | exact trivial | refine And.intro (by first | exact qby hO (by cbv <;> rfl) (by trivial) | (cbv <;> rfl)) ?_))
      refine AnyE.run tok hO (by rfl) (by cbv <;> rfl) (by trivial) ?_
      refine AnyE.many [1,6] (by cbv <;> rfl) (by rfl) ⟨?_,?_,trivial⟩
      · refine qd9.callQ hunk (by cbv <;> rfl) (by cbv <;> rfl) ?_ ?_
        · exact(by repeat (first | exact trivial | refine And.intro (by first | exact qby hO (by cbv <;> rfl) (by trivial) | (cbv <;> rfl)) ?_))
        refine AnyE.run tok hO (by rfl) (by cbv <;> rfl) (by trivial) ?_
        refine AnyE.qey tok hO (by cbv <;> rfl) (by cbv <;> rfl) (by trivial) ?_ ?_
        · exact(by repeat (first | exact trivial | refine And.intro (by first | exact qby hO (by cbv <;> rfl) (by trivial) | (cbv <;> rfl)) ?_))
        refine AnyE.run tok hO (by rfl) (by cbv <;> rfl) (by trivial) ?_
        refine AnyE.qey tok hO (by cbv <;> rfl) (by cbv <;> rfl) (by trivial) ?_ ?_
        · exact(by repeat (first | exact trivial | refine And.intro (by first | exact qby hO (by cbv <;> rfl) (by trivial) | (cbv <;> rfl)) ?_))
        refine AnyE.run tok hO (by rfl) (by cbv <;> rfl) (by trivial) ?_
        refine AnyE.qey tok hO (by cbv <;> rfl) (by cbv <;> rfl) (by trivial) ?_ ?_
        · exact(by repeat (first | exact trivial | refine And.intro (by first | exact qby hO (by cbv <;> rfl) (by trivial) | (cbv <;> rfl)) ?_))
        refine AnyE.run tok hO (by rfl) (by cbv <;> rfl) (by trivial) ?_
        exact⟨rfl,_,rfl,rfl,.inl ⟨rfl,rfl,rfl⟩⟩
      · refine qd9.eff tok hO (by cbv <;> rfl) (by cbv <;> rfl) (by trivial) ?_ ?_
        · exact(by repeat (first | exact trivial | refine And.intro (by first | exact qby hO (by cbv <;> rfl) (by trivial) | (cbv <;> rfl)) ?_))
        refine AnyE.run tok hO (by rfl) (by cbv <;> rfl) (by trivial) ?_
        refine AnyE.qas hunk (by cbv <;> rfl) (by cbv <;> rfl) ?_
        refine AnyE.run tok hO (by rfl) (by cbv <;> rfl) (by trivial) ?_
        refine AnyE.qey tok hO (by cbv <;> rfl) (by cbv <;> rfl) (by trivial) ?_ ?_
        · exact(by repeat (first | exact trivial | refine And.intro (by first | exact qby hO (by cbv <;> rfl) (by trivial) | (cbv <;> rfl)) ?_))
        refine AnyE.run tok hO (by rfl) (by cbv <;> rfl) (by trivial) ?_
        refine AnyE.qey tok hO (by cbv <;> rfl) (by cbv <;> rfl) (by trivial) ?_ ?_
        · exact(by repeat (first | exact trivial | refine And.intro (by first | exact qby hO (by cbv <;> rfl) (by trivial) | (cbv <;> rfl)) ?_))
        refine AnyE.run tok hO (by rfl) (by cbv <;> rfl) (by trivial) ?_
        exact⟨rfl,_,rfl,rfl,.inl ⟨rfl,rfl,rfl⟩⟩
    · refine qd9.eff tok hO (by cbv <;> rfl) (by cbv <;> rfl) (by trivial) ?_ ?_
      · exact(by repeat (first | exact trivial | refine And.intro (by first | exact qby hO (by cbv <;> rfl) (by trivial) | (cbv <;> rfl)) ?_))
      refine AnyE.run tok hO (by rfl) (by cbv <;> rfl) (by trivial) ?_
      refine AnyE.many [1,5] (by cbv <;> rfl) (by rfl) ⟨?_,?_,trivial⟩
      · refine qd9.callQ hunk (by cbv <;> rfl) (by cbv <;> rfl) ?_ ?_
        · exact(by repeat (first | exact trivial | refine And.intro (by first | exact qby hO (by cbv <;> rfl) (by trivial) | (cbv <;> rfl)) ?_))
        refine AnyE.run tok hO (by rfl) (by cbv <;> rfl) (by trivial) ?_
        refine AnyE.qey tok hO (by cbv <;> rfl) (by cbv <;> rfl) (by trivial) ?_ ?_
        · exact(by repeat (first | exact trivial | refine And.intro (by first | exact qby hO (by cbv <;> rfl) (by trivial) | (cbv <;> rfl)) ?_))
        refine AnyE.run tok hO (by rfl) (by cbv <;> rfl) (by trivial) ?_
        refine AnyE.qey tok hO (by cbv <;> rfl) (by cbv <;> rfl) (by trivial) ?_ ?_
        · exact(by repeat (first | exact trivial | refine And.intro (by first | exact qby hO (by cbv <;> rfl) (by trivial) | (cbv <;> rfl)) ?_))
        refine AnyE.run tok hO (by rfl) (by cbv <;> rfl) (by trivial) ?_
        refine AnyE.qey tok hO (by cbv <;> rfl) (by cbv <;> rfl) (by trivial) ?_ ?_
        · exact(by repeat (first | exact trivial | refine And.intro (by first | exact qby hO (by cbv <;> rfl) (by trivial) | (cbv <;> rfl)) ?_))
        refine AnyE.run tok hO (by rfl) (by cbv <;> rfl) (by trivial) ?_
        exact⟨rfl,_,rfl,rfl,.inr ⟨rfl,rfl,rfl⟩⟩
      · refine qd9.eff tok hO (by cbv <;> rfl) (by cbv <;> rfl) (by trivial) ?_ ?_
        · exact(by repeat (first | exact trivial | refine And.intro (by first | exact qby hO (by cbv <;> rfl) (by trivial) | (cbv <;> rfl)) ?_))
        refine AnyE.run tok hO (by rfl) (by cbv <;> rfl) (by trivial) ?_
        refine AnyE.qas hunk (by cbv <;> rfl) (by cbv <;> rfl) ?_
        refine AnyE.run tok hO (by rfl) (by cbv <;> rfl) (by trivial) ?_
        refine AnyE.qey tok hO (by cbv <;> rfl) (by cbv <;> rfl) (by trivial) ?_ ?_
        · exact(by repeat (first | exact trivial | refine And.intro (by first | exact qby hO (by cbv <;> rfl) (by trivial) | (cbv <;> rfl)) ?_))
        refine AnyE.run tok hO (by rfl) (by cbv <;> rfl) (by trivial) ?_
        refine AnyE.qey tok hO (by cbv <;> rfl) (by cbv <;> rfl) (by trivial) ?_ ?_
        · exact(by repeat (first | exact trivial | refine And.intro (by first | exact qby hO (by cbv <;> rfl) (by trivial) | (cbv <;> rfl)) ?_))
        refine AnyE.run tok hO (by rfl) (by cbv <;> rfl) (by trivial) ?_
        exact⟨rfl,_,rfl,rfl,.inr ⟨rfl,rfl,rfl⟩⟩
  have qb7:∀ (l:Hp)(id:Nat)(o:AObj),(l.all fun p=>Nat.ble 49 p.1&&Nat.blt p.1 55)=true→Hp.get l id=some o→49≤id∧id<55:=fun l id o hall ho=>by
    have:=List.all_eq_true.1 hall _ (Hp.qa2 ho)
    simp only [Bool.and_eq_true,Nat.blt_eq] at this
    exact⟨Nat.le_of_ble_eq_true this.1,this.2⟩
  rintro e fm st ⟨rfl,g,rfl,g2,⟨g3,g4,rfl⟩ | ⟨g3,g4,rfl⟩⟩
  · have hch:=qnx ok K next (fun _ _=>False) 6 (d.nw+d.nl) d.nw d.ulo d.uhi (by omega) hpos (by omega) hub (by rw[hN8];exact step) (d.nw+d.nl) 0 (fun _=>0) a0 (chB d lp h0) 55 (by omega) (fun m hm=>absurd hm (Nat.not_lt_zero m)) hall hK
    rw[←qav g2,←qav g3,←qav g4]
    obtain⟨G,hG⟩:∃ G,flatG 1 (qb6 fun _=>0) (d.nw+d.nl)=G:=⟨_,rfl⟩
    rw[hG] at hch
    rw[hNN] at hch hG ⊢
    refine SW.seq (SW.runN tok hO 2 (by cbv <;> rfl) (by trivial) ?_)
    refine qac.mkInts tok (N:=NN) (by cbv <;> rfl) (by kernel_rfl) (by omega) ?_
    rw[hG]
    refine qac.run tok hO (by cbv <;> rfl) (by trivial) ?_
    refine SW.qab tok hO (by cbv <;> rfl) (by trivial) ?_
    refine SW.qab tok hO (by cbv <;> rfl) (by trivial) ?_
    refine SW.run tok hO (by cbv <;> rfl) (by trivial) ?_
    refine qac.apply (by cbv <;> rfl) (show ApplyW Try.prog qmz _ _ _ from⟨qr0,hch⟩) fun w st' hk=>?_
    rcases hk with ⟨rfl,nums2,h2,n2,_,rfl,hk⟩ | ⟨_,_,_,_,_,hk⟩
    · refine qac.nil ?_
      exact⟨_,_,rfl,rfl,chO 6 NN d.nw d.ulo d.uhi (flatG 1 (qb6 nums2) NN),h2,n2,fun id o ho=>qb7 _ id o (by rfl) ho,rfl,hk,(hid _ _ _ hk).1⟩
    · exact hk.elim
  · have hch:=qlj ok K next (fun _ _=>False) 6 (d.nw+d.nl) d.nw d.ulo d.uhi (by omega) hpos (by omega) hub (by rw[hN8];exact steps) (d.nw+d.nl) 0 (fun _=>0) a0 (chB d lp h0) 55 (by omega) (fun m hm=>absurd hm (Nat.not_lt_zero m)) hall hK
    rw[←qav g2,←qav g3,←qav g4]
    obtain⟨G,hG⟩:∃ G,flatG 1 (qb6 fun _=>0) (d.nw+d.nl)=G:=⟨_,rfl⟩
    rw[hG] at hch
    rw[hNN] at hch hG ⊢
    refine SW.seq (SW.runN tok hO 2 (by cbv <;> rfl) (by trivial) ?_)
    refine qac.mkInts tok (N:=NN) (by cbv <;> rfl) (by kernel_rfl) (by omega) ?_
    rw[hG]
    refine qac.run tok hO (by cbv <;> rfl) (by trivial) ?_
    refine SW.qab tok hO (by cbv <;> rfl) (by trivial) ?_
    refine SW.qab tok hO (by cbv <;> rfl) (by trivial) ?_
    refine SW.run tok hO (by cbv <;> rfl) (by trivial) ?_
    refine qac.apply (by cbv <;> rfl) (show ApplyW Try.prog qjb _ _ _ from⟨qr0,hch⟩) fun w st' hk=>?_
    rcases hk with ⟨rfl,nums2,h2,n2,_,rfl,hk⟩ | ⟨_,_,_,_,_,hk⟩
    · refine qac.nil ?_
      exact⟨_,_,rfl,rfl,chOs 6 NN d.nw d.ulo d.uhi (flatG 1 (qb6 nums2) NN),h2,n2,fun id o ho=>qb7 _ id o (by rfl) ho,rfl,hk,(hid _ _ _ hk).1⟩
    · exact hk.elim
end
end Go.Fz
namespace Go.Fz
variable {P:Program}{T:Ti}
theorem qdx {φ:Fi}{st:St}{w:World}(hr:Rel φ st w){id:Nat}{o o':AObj}(ho:st.h.get id=some o)(hown:o.own=true)(hfam:o.fam=none)(hfam':o'.fam=none)(co:Obj)(hobj:∀ w':World,w'.heap[(φ.f id).b]?=some co→qc9 φ w' id o') :
    Rel φ ⟨st.h.set id o',st.n⟩ { w with heap:=w.heap.setIfInBounds (φ.f id).b co}∧Fr φ st w φ ⟨st.h.set id o',st.n⟩ { w with heap:=w.heap.setIfInBounds (φ.f id).b co}:=by
  have hb:=hr.blk id o ho
  refine hr.qso ho hown hfam hfam' rfl rfl rfl (by simp) (fun k hk=>?_) (hobj _ ?_)
  · rw[Array.getElem?_setIfInBounds_ne (Ne.symm hk)]
  · simp[hb]
def mapD (T:Ti)(t:TypeId):Option TypeId:=match T t with
  | some i=>match i.desc with
    | .map k _=>some k
    | _=>none
  | none=>none
theorem qjr (hT:TOk P T){t k:TypeId}(h:mapD T t=some k):∃ e,P.underlying t=some (.map k e):=by
  unfold mapD at h
  split at h
  · rename_i i hi
    split at h
    · rename_i k' e hd
      cases h
      exact⟨e,by rw[←hd];exact(hT t i hi).und⟩
    · cases h
  · cases h
structure KeyF (P:Program)(kt:TypeId){β:Type}(V:β→AV) where
  den:β→Value
  val:∀ (φ:Fi)(b:β)(u:Value),VR φ (V b) u→u=den b
  key:∀ b,∃ l,keyOf P kt (den b)=some l
  inj:∀ b c,den b=den c→b=c
def qcp {β:Type}(V:β→AV)(E:List (β × Nat)):List (AV × AV × Nat):=E.map fun p=>(V p.1,.lit (.bool true),p.2)
def qhy {β:Type} [DecidableEq β] (E:List (β × Nat))(b:β)(clock:Nat):List (β × Nat):=if b∈E.map (·.1) then E else E++[(b,clock)]
def qn4 {β:Type} [DecidableEq β] (E:List (β × Nat))(b:β)(clock:Nat):Nat:=if b∈E.map (·.1) then clock else clock+1
theorem quc {hT:TOk P T}{φ:Fi}{st:St}{w:World}{t kt:TypeId}{β:Type} [DecidableEq β] {V:β→AV}(K:Maps.Keyed P kt)(F:KeyF P kt V){b:β}{u ku vu:Value}{id clock:Nat}{E:List (β × Nat)}(hr:Rel φ st w)(ha:VR φ (.mp id) u)(hku:VR φ (V b) ku)(hvu:VR φ (.lit (.bool true)) vu)
    (hd:mapD T t=some kt)(hm:st.h.get id=some (.map (qcp V E) clock)) :
    ∃ w',(Instr.mapUpdate t u ku vu).run P w=.ok () w'∧Rel φ ⟨st.h.set id (.map (qcp V (qhy E b clock)) (qn4 E b clock)),st.n⟩ w'∧Fr φ st w φ ⟨st.h.set id (.map (qcp V (qhy E b clock)) (qn4 E b clock)),st.n⟩ w':=by
  obtain⟨e,hu⟩:=qjr hT hd
  obtain⟨rfl,hid⟩:=ha.qiv
  obtain rfl:=hvu.qao
  obtain rfl:=F.val φ b ku hku
  obtain⟨lx,hlx⟩:=F.key b
  obtain⟨ces,hb,hsz,hes⟩:=hr.obj id _ hm
  have hlen:(qcp V E).length=E.length:=by simp[qcp]
  rw[hlen] at hsz
  have hent:∀ (i:Nat)(p:β × Nat),E[i]?=some p→∃ e,ces[i]?=some e∧e.key=F.den p.1∧e.val=.bool true∧e.born=p.2:=fun i p hp=>by
    obtain⟨e,h1,h2,h3,h4⟩:=hes i (V p.1,.lit (.bool true),p.2) (by simp[qcp,hp])
    exact⟨e,h1,F.val φ p.1 _ h2,h3.qao,h4⟩
  have hall:∀ e∈ces.toList,∃ p,p∈E∧e.key=F.den p.1:=fun e he=>by
    obtain⟨i,hi,he2⟩:=List.getElem_of_mem he
    have hil:i<E.length:=by rw[←hsz];simpa using hi
    obtain⟨e',h1,h2,_⟩:=hent i E[i] (List.getElem?_eq_getElem hil)
    have:e'=e:=by
      rw[←Array.getElem?_toList,List.getElem?_eq_getElem hi,he2] at h1
      exact(Option.some.inj h1).symm
    subst this
    exact⟨E[i],List.getElem_mem hil,h2⟩
  have hfind:=K.find w hlx ces.toList fun e he=>by
    obtain⟨p,_,h2⟩:=hall e he
    rw[h2];exact F.key p.1
  have hcheck:=K.check w false hlx
  rcases hfind with ⟨hrun,hne⟩ | ⟨j,e0,hrun,hj,hje⟩
  · have hnot:b∉E.map (·.1):=fun hin=>by
      obtain⟨p,hp,hpb⟩:=List.mem_map.1 hin
      obtain⟨i,hi,rfl⟩:=List.getElem_of_mem hp
      obtain⟨e,h1,h2,_⟩:=hent i E[i] (List.getElem?_eq_getElem hi)
      rw[←Array.getElem?_toList] at h1
      exact hne e (List.mem_of_getElem? h1) (by rw[h2,hpb])
    have e1:qhy E b clock=E++[(b,clock)]:=if_neg hnot
    have e2:qn4 E b clock=clock+1:=if_neg hnot
    rw[e1,e2]
    have:=qdx (o':=.map (qcp V (E++[(b,clock)])) (clock+1)) hr hm rfl rfl rfl (.map (ces.push { key:=F.den b,val:=.bool true,born:=clock}) (clock+1)) (fun w' hw'=>⟨_,hw',by simp[hsz,qcp],fun i x hx=>by
      by_cases hi:i<E.length
      · have hx2:(qcp V E)[i]?=some x:=by
          simp only [qcp,List.map_append] at hx ⊢
          rwa [List.getElem?_append_left (by simpa using hi)] at hx
        obtain⟨e,k1,k2⟩:=hes i x hx2
        exact⟨e,by rw[Array.getElem?_push_lt (by omega),←k1,Array.getElem?_eq_getElem (by omega)],k2⟩
      · have hie:i=E.length:=by
          have:i<(qcp V (E++[(b,clock)])).length:=(List.getElem?_eq_some_iff.1 hx).1
          simp[qcp] at this;omega
        subst hie
        have hxx:x=(V b,.lit (.bool true),clock):=by
          simp[qcp] at hx;exact hx.symm
        subst hxx
        exact⟨{ key:=F.den b,val:=.bool true,born:=clock},by rw[←hsz];simp,hku,.lit _,rfl⟩⟩)
    refine⟨_,?_,this.1,this.2⟩
    simp[Instr.mapUpdate,run_underlying hu,MapKept.run_getObj_map hb,hcheck,hrun,MapKept.run_setObj_map _ hb,Result.andThen]
  · have hjl:j<E.length:=by
      have:j<ces.toList.length:=(List.getElem?_eq_some_iff.1 hj).1
      rw[←hsz];simpa using this
    have hjc:ces[j]?=some e0:=by rw[←Array.getElem?_toList];exact hj
    obtain⟨e',k1,k2,k3,k4⟩:=hent j E[j] (List.getElem?_eq_getElem hjl)
    have hee:e'=e0:=by rw[hjc] at k1;exact(Option.some.inj k1).symm
    subst hee
    have hin:b∈E.map (·.1):=List.mem_map.2 ⟨E[j],List.getElem_mem hjl,F.inj _ _ (by rw[←k2,hje])⟩
    have e1:qhy E b clock=E:=if_pos hin
    have e2:qn4 E b clock=clock:=if_pos hin
    rw[e1,e2]
    have:=qdx (o':=.map (qcp V E) clock) hr hm rfl rfl rfl (.map (ces.modify j fun e=>{ e with key:=F.den b,val:=.bool true}) clock) (fun w' hw'=>⟨_,hw',by simp[hsz,hlen],fun i x hx=>by
      by_cases hi:i=j
      · subst hi
        obtain⟨e,q1,q2,q3,q4⟩:=hes i x hx
        have:e=e':=by rw[hjc] at q1;exact(Option.some.inj q1).symm
        subst this
        refine⟨{ e with key:=F.den b,val:=.bool true},by simp[Array.getElem?_modify,hjc],?_,?_,q4⟩
        · show VR φ x.1 (F.den b)
          rw[←hje];exact q2
        · show VR φ x.2.1 (.bool true)
          rw[←k3];exact q3
      · obtain⟨e,q1,q2⟩:=hes i x hx
        exact⟨e,by simp[Array.getElem?_modify,Ne.symm hi,q1],q2⟩⟩)
    refine⟨_,?_,this.1,this.2⟩
    have hstay:=K.stays w hlx
    simp[Instr.mapUpdate,run_underlying hu,MapKept.run_getObj_map hb,hcheck,hrun,hjc,hje,hstay,MapKept.run_setObj_map _ hb,Result.andThen]
def updAt (ops:Array Oper)(i:Nat)(f:Fm):Option (TypeId × AV × AV × AV):=match ops[i]? with
  | none=>none
  | some o=>match wantA ops f.ts o with
    | some true=>match o.op with
      | .mapUpdate t m k v=>some (t,Operand.av f.ts m,Operand.av f.ts k,Operand.av f.ts v)
      | _=>none
    | _=>none
theorem qac.qud (hT:TOk P T){rd:Option Nat}{ops:Array Oper}{L:Fm→St→Prop}{f:Fm}{st:St}{i:Nat}{l:List Nat}{t kt:TypeId}{β:Type} [DecidableEq β] {V:β→AV}(K:Maps.Keyed P kt)(F:KeyF P kt V){b:β}{id clock:Nat}{E:List (β × Nat)}
    (hx:updAt ops i f=some (t,.mp id,V b,.lit (.bool true)))(hd:mapD T t=some kt)(hm:st.h.get id=some (.map (qcp V E) clock))
    (h:qac P rd ops l L (putAt ops i f qb3) ⟨st.h.set id (.map (qcp V (qhy E b clock)) (qn4 E b clock)),st.n⟩):qac P rd ops (i::l) L f st:=by
  unfold updAt at hx
  split at hx
  · cases hx
  · rename_i o ho
    split at hx
    · rename_i hw
      split at hx
      · rename_i t' m k v hop
        simp only [Option.some.injEq,Prod.mk.injEq] at hx
        obtain⟨rfl,e2,e3,e4⟩:=hx
        have hput:∀ v,putAt ops i f v=f.put o.dst v:=fun v=>by simp[putAt,ho]
        rw[hput] at h
        refine qac.value ho hw (fun c hc=>by rw[hop] at hc;cases hc) (fun φ w a h2 h3=>?_) h
        have hρ:=qa7 h3.ts
        have a1:=hρ m
        have a2:=hρ k
        have a3:=hρ v
        rw[e2] at a1;rw[e3] at a2;rw[e4] at a3
        obtain⟨w',k2,k3,k4⟩:=quc (hT:=hT) K F h2 a1 a2 a3 hd hm
        exact⟨φ,w',undef,.inr ⟨by simp[execOp,hop,k2,Result.andThen],rfl⟩,.lit _,k3,Ext.refl _,k4⟩
      · cases hx
    · cases hx
end Go.Fz
namespace Go.Fz
open Go.Proofs
set_option maxRecDepth 100000
abbrev Mk:=Bool × Bool × Bool × Bool × Bool
def mkV (b:Mk):AV:=.agg [.sb b.1,.sb b.2.1,.sb b.2.2.1,.sb b.2.2.2.1,.sb b.2.2.2.2]
theorem qd3 {a b:Nat}(h:Nat.ble (a+1) b=true):a<b:=Nat.le_of_ble_eq_true h
theorem laid:laidOutB Try.prog=true:=by kernel_rfl
theorem qun:Maps.Keyed Try.prog 145:=Maps.Keyed.of_law (deep_law_laid (m:=3) laid (by omega) (qd3 (by kernel_rfl)) (by kernel_rfl) (by kernel_rfl))
def mkKey:KeyF Try.prog 145 mkV where
  den b:=.agg #[.bool b.1,.bool b.2.1,.bool b.2.2.1,.bool b.2.2.2.1,.bool b.2.2.2.2]
  val φ b u h:=by
    obtain⟨us,rfl,h1⟩:=h.qbd
    match us,h1 with
    | [_,_,_,_,_],.cons h1 (.cons h2 (.cons h3 (.cons h4 (.cons h5 .nil)))) =>
      rw[h1.qit,h2.qit,h3.qit,h4.qit,h5.qit]
  key b:=by
    obtain⟨b0,b1,b2,b3,b4⟩:=b
    cases b0 <;> cases b1 <;> cases b2 <;> cases b3 <;> cases b4 <;> exact Option.isSome_iff_exists.1 (by kernel_rfl)
  inj b c h:=by
    obtain⟨b0,b1,b2,b3,b4⟩:=b
    obtain⟨c0,c1,c2,c3,c4⟩:=c
    simp at h
    simp[h]
end Go.Fz
namespace Go.Fz
open Go.Proofs
set_option maxRecDepth 100000
def qc0 (d:qai)(f:Nat→Int):qlq:=⟨d.nw,false,f,d.nl,false,fun i=>f (d.nw+i)⟩
def qbp (d:qai)(f:Nat→Int):Mk:=(wrM (d.qgd (d.qbc (qc0 d f))) d.nc 0,wrM (d.qgd (d.qbc (qc0 d f))) d.nc 1,wrM (d.qgd (d.qbc (qc0 d f))) d.nc 2,wrM (d.qgd (d.qbc (qc0 d f))) d.nc 3,wrM (d.qgd (d.qbc (qc0 d f))) d.nc 4)
def qmj:Mk:=(false,false,false,false,false)
structure Pr where
  E:List (Mk × Nat)
  cl:Nat
  outs:List (Nat→Int)
def Pr.next (d:qai)(a:Pr)(f:Nat→Int):Pr:=⟨qhy a.E (qbp d f) a.cl,qn4 a.E (qbp d f) a.cl,if qbp d f=qmj then a.outs++[f] else a.outs⟩
def outcC (d:qai)(f:Nat→Int)(k:Nat):AV:=match k with
  | 0=>qap d.nw false f
  | 1=>qap d.nl false (fun i=>f (d.nw+i))
  | 2=>qap d.nw false (d.bun (qc0 d f))
  | 3=>qap d.nw false (d.lef (qc0 d f))
  | 4=>iV (d.qbc (qc0 d f)).hands
  | 5=>iV (d.qbc (qc0 d f)).loose
  | 6=>iV (d.qbc (qc0 d f)).flats
  | _=>iV (d.qbc (qc0 d f)).spare
def qkn (d:qai)(l:List (Nat→Int))(i k:Nat):AV:=outcC d (l.getD i (fun _=>0)) k
theorem qk6 (d:qai)(l:List (Nat→Int))(i k:Nat):Below 0 (qkn d l i k):=by
  unfold qkn outcC
  split <;> first | exact qa3 _ _ _ | exact Below.lit
def qn0 (d:qai)(l:List (Nat→Int)):List AV:=flatG 8 (qkn d l) l.length
theorem qtu (d:qai)(l:List (Nat→Int))(f:Nat→Int):qn0 d (l++[f])=qn0 d l++[outcC d f 0,outcC d f 1,outcC d f 2,outcC d f 3,outcC d f 4,outcC d f 5,outcC d f 6,outcC d f 7]:=by
  unfold qn0
  rw[List.length_append,List.length_singleton]
  show flatG 8 (qkn d (l++[f])) l.length++cellsFrom (qkn d (l++[f]) l.length) 0 8=_
  rw[show flatG 8 (qkn d (l++[f])) l.length=flatG 8 (qkn d l) l.length from qd5 fun i k hi=>by unfold qkn;rw[List.getD_eq_getElem?_getD,List.getElem?_append_left hi,←List.getD_eq_getElem?_getD]]
  have:qkn d (l++[f]) l.length=outcC d f:=funext fun k=>by unfold qkn;simp
  rw[this];rfl
theorem qof (d:qai)(l:List (Nat→Int)):(qn0 d l).length=l.length*8:=qaj _ _ _
def stZ:List AV:=[iV 0,iV 0,nl3,nl3,nl3,nl3,.lit (.map none)]
def stW (d:qai)(XO:AV):List AV:=[iV d.hand,iV d.flat,qcv d,qdg d,qd8 d,XO,.mp 2]
noncomputable def stParts:Code × Code:=match nthC 2 (bodyF Try.f76) with
  | .seq _ (.block _ (.rangeFunc _ _ a b))=>(a,b)
  | c=>(c,c)
def stTs:Ts:=⟨34,getT [(1,.ptr 0 0),(2,.ptr 1 0),(3,.ptr 3 0),(11,.fn (.func 122) [] [.ptr 4 0])]⟩
noncomputable def stR:qcu:={ state:=.ready,pending:=none,tmps:=stTs,params:=#[12],assign:=stParts.1,body:=stParts.2,dfid:=5}
def outsV (q:Nat):Nat→AV
  | 0=>nl3
  | n+1=>.sl q 0 (n+1) 8 false
def outsH (d:qai)(q:Nat):List (Nat→Int)→Hp
  | []=>[]
  | f::l=>[(q,.cells none false (qn0 d (f::l)))]
noncomputable def stH (d:qai)(XO:AV)(ME:List (AV × AV × Nat))(cl:Nat)(OB:Hp):Hp:=chB d (.loop stR) ([(3,.cells none false (stW d XO)),(2,.map ME cl),(1,.cells none false stZ),(0,.cells none false (qgc d))]++OB)
def stK (d:qai)(a:Pr)(v:AV)(st':St):Prop:=v=.lit (.bool true)∧∃ (m n2:Nat)(G:List AV)(fm:Option Nat)(h:Hp),st'=⟨h,n2⟩∧8≤n2 ∧
  h.get 6=some (.loop stR)∧h.get 5=some .dfr∧h.get 4=some (.cells none false (qgc d))∧h.get 3=some (.cells none false (stW d (outsV m a.outs.length)))∧h.get 2=some (.map (qcp mkV a.E) a.cl)∧h.get 1=some (.cells none false stZ)∧h.get 0=some (.cells none false (qgc d)) ∧
  (a.outs=[]∨(7≤m∧m<n2∧h.get m=some (.cells fm false G)∧G=qn0 d a.outs))
theorem qm7 {d:qai}{f:Nat→Int}(h:∀ m,m<d.nw+d.nl→d.ulo m≤f m∧f m≤d.uhi m):d.fits (qc0 d f)=true:=by
  unfold qai.fits
  have e1:∀ i,i<d.nw→inB (f i) (d.wlo i) (d.whi i)=true:=fun i hi=>by
    have:=h i (by omega)
    simp only [qai.ulo,qai.uhi,hi,if_true] at this
    simp only [inB,Bool.and_eq_true,decide_eq_true_eq];exact this
  have e2:∀ i,i<d.nl→inB (f (d.nw+i)) (d.llo i) (d.lhi i)=true:=fun i hi=>by
    have:=h (d.nw+i) (by omega)
    have hn:¬ d.nw+i<d.nw:=by omega
    simp only [qai.ulo,qai.uhi,hn,if_false,Nat.add_sub_cancel_left] at this
    simp only [inB,Bool.and_eq_true,decide_eq_true_eq];exact this
  show(decide (d.nw=d.nw)&&decide (d.nl=d.nl)&&qdz d.nw (fun i=>inB (f i) (d.wlo i) (d.whi i))&&qdz d.nl (fun i=>inB (f (d.nw+i)) (d.llo i) (d.lhi i)))=true
  rw[qew e1,qew e2];simp
set_option maxHeartbeats 16000000 in
theorem qwh (d:qai)(gd:d.Good)(f:Nat→Int)(hf:∀ m,m<d.nw+d.nl→d.ulo m≤f m∧f m≤d.uhi m)(a:Pr)(hlen:a.outs.length<100000) :
    qbb Try.prog 6 [qwc f d.nw d.nl] ⟨stH d (outsV 7 a.outs.length) (qcp mkV a.E) a.cl (outsH d 7 a.outs),8⟩ (stK d (a.next d f)):=by
  obtain⟨O,hO⟩:∃ O:Ar,O=std:=⟨_,rfl⟩
  have htal:=qsr gd (qm7 hf)
  have hwr:=qrc d (d.qbc (qc0 d f)) gd.nc (fun i hi=>⟨(gd.cnt i hi).1.1,(gd.cnt i hi).1.2,(gd.cnt i hi).2.1.1,(gd.cnt i hi).2.1.2⟩)
  obtain⟨E,cl,outs⟩:=a
  have hW:Pure Try.prog 83 [qdp d,qk0 (d.qbc (qc0 d f))] (mkV (qbp d f)):=hwr
  have hnext:Pr.next d ⟨E,cl,outs⟩ f=⟨qhy E (qbp d f) cl,qn4 E (qbp d f) cl,if qbp d f=qmj then outs++[f] else outs⟩:=rfl
  rw[hnext]
  have ho0:outcC d f 0=qap d.nw false f:=rfl
  have hcell:[qap d.nw false f,qap d.nl false (fun i=>f (d.nw+i)),qap d.nw false (d.qbc (qc0 d f)).bun,qap d.nw false (d.qbc (qc0 d f)).lef,iV (d.qbc (qc0 d f)).hands,iV (d.qbc (qc0 d f)).loose,iV (d.qbc (qc0 d f)).flats,iV (d.qbc (qc0 d f)).spare]=[outcC d f 0,outcC d f 1,outcC d f 2,outcC d f 3,outcC d f 4,outcC d f 5,outcC d f 6,outcC d f 7]:=rfl
  have hsn:=qtu d outs f
  rw[←hcell] at hsn
  have htal':Pure Try.prog 84 [qdp d,truV (qc0 d f)] (.agg [qap d.nw false (d.qbc (qc0 d f)).bun,qap d.nw false (d.qbc (qc0 d f)).lef,iV (d.qbc (qc0 d f)).hands,iV (d.qbc (qc0 d f)).loose,iV (d.qbc (qc0 d f)).flats,iV (d.qbc (qc0 d f)).spare]):=htal
  have hW':Pure Try.prog 83 [qdp d,.agg [qap d.nw false (d.qbc (qc0 d f)).bun,qap d.nw false (d.qbc (qc0 d f)).lef,iV (d.qbc (qc0 d f)).hands,iV (d.qbc (qc0 d f)).loose,iV (d.qbc (qc0 d f)).flats,iV (d.qbc (qc0 d f)).spare]] (mkV (qbp d f)):=hW
  generalize qbp d f=W at hW' ⊢
  clear hW hwr htal hcell ho0 hnext
  generalize (d.qbc (qc0 d f)).bun=BU at htal' hW' hsn
  generalize (d.qbc (qc0 d f)).lef=LE at htal' hW' hsn
  generalize (d.qbc (qc0 d f)).hands=HA at htal' hW' hsn
  generalize (d.qbc (qc0 d f)).loose=LO at htal' hW' hsn
  generalize (d.qbc (qc0 d f)).flats=FL at htal' hW' hsn
  generalize (d.qbc (qc0 d f)).spare=SP at htal' hW' hsn
  obtain⟨ME,hME⟩:∃ ME,qcp mkV E=ME:=⟨_,rfl⟩
  obtain⟨M2,hM2⟩:∃ M,qcp mkV (qhy E W cl)=M:=⟨_,rfl⟩
  obtain⟨c2,hc2⟩:∃ c,qn4 E W cl=c:=⟨_,rfl⟩
  obtain⟨w0,w1,w2,w3,w4⟩:=W
  simp only at hlen ⊢
  rw[hME]
  cases outs with
  | nil =>
    refine qbb.qdm (r:=stR) rfl rfl ?_
    refine SW.run tok hO (by cbv <;> rfl) (by trivial) ?_
    refine⟨stR,rfl,rfl,SW.block ?_⟩
    obtain⟨RB,hRB⟩:∃ r,r=({ stR with state:=.busy}:qcu):=⟨_,rfl⟩
    rw[←hRB]
    refine SW.qab tok hO (by cbv <;> rfl) (by trivial) ?_
    refine qac.qas htal' (by cbv <;> rfl) ?_
    refine qac.run tok hO (by cbv <;> rfl) (by trivial) ?_
    refine SW.qab tok hO (by cbv <;> rfl) (by trivial) ?_
    refine qac.qas hW' (by cbv <;> rfl) ?_
    refine qac.run tok hO (by cbv <;> rfl) (by trivial) ?_
    refine SW.seq (SW.runN tok hO 3 (by cbv <;> rfl) (by trivial) ?_)
    refine qac.qud tok qun mkKey (b:=(w0,w1,w2,w3,w4)) (id:=2) (E:=E) (clock:=cl) (by cbv <;> rfl) (by kernel_rfl) (by rw[hME];rfl) ?_
    rw[hM2,hc2]
    refine qac.nil ?_
    refine SW.qab tok hO (by cbv <;> rfl) (by trivial) ?_
    refine SW.qa6 (by cbv <;> rfl) (fun h1=>?_) (fun h1=>SW.skip ?_)
    · have hWn:((w0,w1,w2,w3,w4):Mk)=qmj:=by
        subst hO;simp[std] at h1;simp[qmj,h1]
      rw[if_pos hWn]
      refine SW.runN tok hO 6 (by cbv <;> rfl) (by trivial) ?_
      refine qac.qev tok (by cbv <;> rfl) (by rfl) (by kernel_rfl) (by rfl) (by rfl) ?_
      refine qac.run tok hO (by cbv <;> rfl) (by trivial) ?_
      refine⟨_,rfl,rfl,12,13,_,none,_,rfl,by omega,by subst hRB;rfl,rfl,rfl,rfl,by show _=some (AObj.map (qcp mkV (qhy E (w0,w1,w2,w3,w4) cl)) c2);rw[hM2];rfl,rfl,rfl,.inr ⟨by omega,by omega,rfl,hsn.symm⟩⟩
    · have hWn:((w0,w1,w2,w3,w4):Mk)≠qmj:=by
        intro hq;simp[qmj] at hq;subst hO;simp[std,hq] at h1
      rw[if_neg hWn]
      refine⟨_,rfl,rfl,7,11,[],none,_,rfl,by omega,by subst hRB;rfl,rfl,rfl,rfl,by show _=some (AObj.map (qcp mkV (qhy E (w0,w1,w2,w3,w4) cl)) c2);rw[hM2];rfl,rfl,rfl,.inl rfl⟩
  | cons f0 l =>
    obtain⟨G1,hG1⟩:∃ G,qn0 d (f0::l)=G:=⟨_,rfl⟩
    have hH:outsH d 7 (f0::l)=[(7,.cells none false G1)]:=by rw[←hG1];rfl
    obtain⟨LL,hLL⟩:∃ n,l.length=n:=⟨_,rfl⟩
    have hV:outsV 7 (f0::l).length=.sl 7 0 (LL+1) 8 false:=by rw[←hLL];rfl
    have hGf:G1=flatG 8 (qkn d (f0::l)) (LL+1):=by rw[←hG1,←hLL];rfl
    have hlen':LL+1<100000:=by rw[←hLL];exact hlen
    rw[hH,hV]
    rw[hG1] at hsn
    refine qbb.qdm (r:=stR) rfl rfl ?_
    refine SW.run tok hO (by cbv <;> rfl) (by trivial) ?_
    refine⟨stR,rfl,rfl,SW.block ?_⟩
    obtain⟨RB,hRB⟩:∃ r,r=({ stR with state:=.busy}:qcu):=⟨_,rfl⟩
    rw[←hRB]
    refine SW.qab tok hO (by cbv <;> rfl) (by trivial) ?_
    refine qac.qas htal' (by cbv <;> rfl) ?_
    refine qac.run tok hO (by cbv <;> rfl) (by trivial) ?_
    refine SW.qab tok hO (by cbv <;> rfl) (by trivial) ?_
    refine qac.qas hW' (by cbv <;> rfl) ?_
    refine qac.run tok hO (by cbv <;> rfl) (by trivial) ?_
    refine SW.seq (SW.runN tok hO 3 (by cbv <;> rfl) (by trivial) ?_)
    refine qac.qud tok qun mkKey (b:=(w0,w1,w2,w3,w4)) (id:=2) (E:=E) (clock:=cl) (by cbv <;> rfl) (by kernel_rfl) (by rw[hME];rfl) ?_
    rw[hM2,hc2]
    refine qac.nil ?_
    refine SW.qab tok hO (by cbv <;> rfl) (by trivial) ?_
    refine SW.qa6 (by cbv <;> rfl) (fun h1=>?_) (fun h1=>SW.skip ?_)
    · have hWn:((w0,w1,w2,w3,w4):Mk)=qmj:=by
        subst hO;simp[std] at h1;simp[qmj,h1]
      rw[if_pos hWn]
      refine SW.runN tok hO 6 (by cbv <;> rfl) (by trivial) ?_
      refine qac.qeh (g:=qkn d (f0::l)) (len:=LL+1) tok (by cbv <;> rfl) (by rfl) (by rfl) hGf (by kernel_rfl) (by rfl) (by rfl) (by omega) fun G2 hG2=>?_
      refine qac.run tok hO (by cbv <;> rfl) (by trivial) ?_
      refine⟨_,rfl,rfl,12,13,_,(some 7),_,rfl,by omega,by subst hRB;rfl,rfl,rfl,by show _=some (AObj.cells none false (stW d (outsV 12 ((f0::l)++[f]).length)));rw[show((f0::l)++[f]).length=LL+1+1 by simp[hLL]];rfl,by show _=some (AObj.map (qcp mkV (qhy E (w0,w1,w2,w3,w4) cl)) c2);rw[hM2];rfl,rfl,rfl,.inr ⟨by omega,by omega,rfl,by rw[hG2,←hGf];exact hsn.symm⟩⟩
    · have hWn:((w0,w1,w2,w3,w4):Mk)≠qmj:=by
        intro hq;simp[qmj] at hq;subst hO;simp[std,hq] at h1
      rw[if_neg hWn]
      refine⟨_,rfl,rfl,7,11,_,none,_,rfl,by omega,by subst hRB;rfl,rfl,rfl,by show _=some (AObj.cells none false (stW d (outsV 7 (f0::l).length)));rw[hV];rfl,by show _=some (AObj.map (qcp mkV (qhy E (w0,w1,w2,w3,w4) cl)) c2);rw[hM2];rfl,rfl,rfl,.inr ⟨by omega,by omega,rfl,hG1.symm⟩⟩
end Go.Fz
namespace Go.Fz
open Go.Proofs
set_option maxRecDepth 100000
theorem qn7 {d:qai}{XO:AV}{ME:List (AV × AV × Nat)}{cl q:Nat}{outs:List (Nat→Int)}{id:Nat}{o:AObj}(h:Hp.get (stH d XO ME cl (outsH d q outs)) id=some o) :
    (id=6∧o=.loop stR)∨(id=5∧o=.dfr)∨(id=4∧o=.cells none false (qgc d))∨(id=3∧o=.cells none false (stW d XO))∨(id=2∧o=.map ME cl)∨(id=1∧o=.cells none false stZ)∨(id=0∧o=.cells none false (qgc d)) ∨
      (id=q∧outs≠[]∧o=.cells none false (qn0 d outs)):=by
  simp only [stH,chB,List.cons_append,List.nil_append,Hp.get] at h
  split at h
  · rename_i e;cases h;exact .inl ⟨e.symm,rfl⟩
  split at h
  · rename_i e;cases h;exact .inr (.inl ⟨e.symm,rfl⟩)
  split at h
  · rename_i e;cases h;exact .inr (.inr (.inl ⟨e.symm,rfl⟩))
  split at h
  · rename_i e;cases h;exact .inr (.inr (.inr (.inl ⟨e.symm,rfl⟩)))
  split at h
  · rename_i e;cases h;exact .inr (.inr (.inr (.inr (.inl ⟨e.symm,rfl⟩))))
  split at h
  · rename_i e;cases h;exact .inr (.inr (.inr (.inr (.inr (.inl ⟨e.symm,rfl⟩)))))
  split at h
  · rename_i e;cases h;exact .inr (.inr (.inr (.inr (.inr (.inr (.inl ⟨e.symm,rfl⟩))))))
  cases outs with
  | nil=>simp[outsH,Hp.get] at h
  | cons f l =>
    simp only [outsH,Hp.get] at h
    split at h
    · rename_i e;cases h;exact .inr (.inr (.inr (.inr (.inr (.inr (.inr ⟨e.symm,by simp,rfl⟩))))))
    · cases h
theorem qqt {ρ:Nat→Nat}{n:Nat}:∀ {l:List (Nat × AV)},(∀ p∈l,qaf ρ n p.2 p.2)→∀ i,qaf ρ n (getT l i) (getT l i)
  | [],_,_=>qaf.any
  | (j,a)::r,h,i=>by
    simp only [getT]
    cases Nat.beq j i with
    | true=>exact h (j,a) List.mem_cons_self
    | false=>exact qqt (fun p hp=>h p (List.mem_cons_of_mem _ hp)) i
theorem qe2 (E:List (Mk × Nat)):∀ x∈qcp mkV E,Below 0 x.1∧Below 0 x.2.1:=fun x hx=>by
  obtain⟨p,_,rfl⟩:=List.mem_map.1 hx
  exact⟨Below.agg (qb2.ok ⟨Below.sb,Below.sb,Below.sb,Below.sb,Below.sb,trivial⟩),Below.lit⟩
theorem stX {d:qai}{E:List (Mk × Nat)}{cl:Nat}{outs:List (Nat→Int)}(σ:Nat→Nat)(hσ:∀ id,id≤6→σ id=id){m q n:Nat}(hm:7≤m)(hq:σ q=m)(hq6:6<q)(hqn:outs≠[]→q<n)(hn:7≤n){h1:Hp}{n1:Nat}{fm:Option Nat}{G:List AV}
    (g6:h1.get 6=some (.loop stR))(g5:h1.get 5=some .dfr)(g4:h1.get 4=some (.cells none false (qgc d)))(g3:h1.get 3=some (.cells none false (stW d (outsV m outs.length))))(g2:h1.get 2=some (.map (qcp mkV E) cl))(g1:h1.get 1=some (.cells none false stZ))(g0:h1.get 0=some (.cells none false (qgc d)))
    (ga:outs=[]∨(h1.get m=some (.cells fm false G)∧G=qn0 d outs)):qr8 σ ⟨h1,n1⟩ ⟨stH d (outsV q outs.length) (qcp mkV E) cl (outsH d q outs),n⟩:=by
  have rp:∀ j,j≤6→qaf σ n (.ptr j 0) (.ptr j 0):=fun j hj=>by
    have:=qaf.ptr (ρ:=σ) (n:=n) (j:=j) (off:=0) (by omega)
    rwa [hσ j hj] at this
  have rts:∀ i,qaf σ n (stTs.get i) (stTs.get i):=qqt fun p hp=>by
    simp only [List.mem_cons,List.not_mem_nil,or_false] at hp
    rcases hp with rfl | rfl | rfl | rfl
    · exact rp 0 (by omega)
    · exact rp 1 (by omega)
    · exact rp 3 (by omega)
    · exact qaf.fn .nil (.cons (rp 4 (by omega)) .nil)
  have rmp:qaf σ n (.mp 2) (.mp 2):=by
    have:=qaf.mp (ρ:=σ) (n:=n) (j:=2) (by omega)
    rwa [hσ 2 (by omega)] at this
  have rx:qaf σ n (outsV q outs.length) (outsV m outs.length):=by
    cases hl:outs.length with
    | zero=>exact qaf.closed Below.lit
    | succ k =>
      have hne:outs≠[]:=fun e=>by rw[e] at hl;cases hl
      have:=qaf.sl (ρ:=σ) (n:=n) (j:=q) (off:=0) (len:=k+1) (sz:=8) (ex:=false) (hqn hne)
      rwa [hq] at this
  have robj:∀ id o,Hp.get (stH d (outsV q outs.length) (qcp mkV E) cl (outsH d q outs)) id=some o→id<n∧∃ o1,h1.get (σ id)=some o1∧RenX σ n o o1∧(id≤6→o1.fam=none∧σ id=id)∧(6<id→id=q):=fun id o h=>by
    rcases qn7 h with ⟨rfl,rfl⟩ | ⟨rfl,rfl⟩ | ⟨rfl,rfl⟩ | ⟨rfl,rfl⟩ | ⟨rfl,rfl⟩ | ⟨rfl,rfl⟩ | ⟨rfl,rfl⟩ | ⟨rfl,hne,rfl⟩
    · exact⟨by omega,_,by rw[hσ 6 (by omega)];exact g6,.base (.loop rfl rfl rfl rfl rfl (hσ 5 (by omega)).symm (by show 5<n;omega) rfl rts),fun _=>⟨rfl,hσ 6 (by omega)⟩,fun h=>by omega⟩
    · exact⟨by omega,_,by rw[hσ 5 (by omega)];exact g5,.base .dfr,fun _=>⟨rfl,hσ 5 (by omega)⟩,fun h=>by omega⟩
    · exact⟨by omega,_,by rw[hσ 4 (by omega)];exact g4,.base (.cells (qay.closed (qa4 d))),fun _=>⟨rfl,hσ 4 (by omega)⟩,fun h=>by omega⟩
    · exact⟨by omega,_,by rw[hσ 3 (by omega)];exact g3,.base (.cells (.cons (qaf.closed Below.lit) (.cons (qaf.closed Below.lit) (.cons (qaf.closed (qau d)) (.cons (qaf.closed (qa0 d)) (.cons (qaf.closed (qbl d)) (.cons rx (.cons rmp .nil)))))))),fun _=>⟨rfl,hσ 3 (by omega)⟩,fun h=>by omega⟩
    · exact⟨by omega,_,by rw[hσ 2 (by omega)];exact g2,.map (qe2 E),fun _=>⟨rfl,hσ 2 (by omega)⟩,fun h=>by omega⟩
    · exact⟨by omega,_,by rw[hσ 1 (by omega)];exact g1,.base (.cells (qay.closed (qb2.ok ⟨Below.lit,Below.lit,Below.lit,Below.lit,Below.lit,Below.lit,Below.lit,trivial⟩))),fun _=>⟨rfl,hσ 1 (by omega)⟩,fun h=>by omega⟩
    · exact⟨by omega,_,by rw[hσ 0 (by omega)];exact g0,.base (.cells (qay.closed (qa4 d))),fun _=>⟨rfl,hσ 0 (by omega)⟩,fun h=>by omega⟩
    · rcases ga with ga | ⟨ga,hG⟩
      · exact absurd ga hne
      · exact⟨hqn hne,_,by rw[hq];exact ga,.base (.cells (by rw[hG];exact qay.closed (qar (qk6 d outs) _))),fun h=>by omega,fun _=>rfl⟩
  refine⟨fun id o h=>?_,fun i j oi oj hi hj hij pi pj hpi hpj=>?_⟩
  · obtain⟨k1,o1,k2,k3,_⟩:=robj id o h
    exact⟨k1,o1,k2,k3⟩
  · obtain⟨_,o1,a2,_,a4,a5⟩:=robj i oi hi
    obtain⟨_,o2,b2,_,b4,b5⟩:=robj j oj hj
    rw[show(⟨h1,n1⟩:St).h=h1 from rfl] at hpi hpj
    rw[a2] at hpi;cases hpi
    rw[b2] at hpj;cases hpj
    by_cases hi6:i≤6
    · obtain⟨f1,s1⟩:=a4 hi6
      refine⟨?_,fun⟨f,k1,_⟩=>by rw[f1] at k1;cases k1⟩
      by_cases hj6:j≤6
      · obtain⟨_,s2⟩:=b4 hj6
        omega
      · obtain rfl:=b5 (by omega)
        omega
    · obtain rfl:=a5 (by omega)
      by_cases hj6:j≤6
      · obtain⟨f2,s2⟩:=b4 hj6
        exact⟨by omega,fun⟨f,_,k2⟩=>by rw[f2] at k2;cases k2⟩
      · obtain rfl:=b5 (by omega)
        exact absurd rfl hij
def stKq (d:qai)(a:Pr)(h:Hp)(n:Nat):Prop:=55≤n∧∃ q,h=stH d (outsV q a.outs.length) (qcp mkV a.E) a.cl (outsH d q a.outs)∧55≤q∧(a.outs=[]∨q<n)
def sgm (m n2 n id:Nat):Nat:=if id≤6 then id else if id<n then n2+id else m
theorem st_core (d:qai)(gd:d.Good)(f:Nat→Int)(hf:∀ m,m<d.nw+d.nl→d.ulo m≤f m∧f m≤d.uhi m)(a:Pr)(hlen:a.outs.length<100000)(h:Hp)(n:Nat)(hK:stKq d a h n) :
    qbb Try.prog 6 [qwc f d.nw d.nl] ⟨h,n⟩ (fun v st'=>v=.lit (.bool true)∧stKq d (a.next d f) st'.h st'.n):=by
  obtain⟨hn,q,rfl,hq,hqn⟩:=hK
  have htab:∀ id,id≤6→tabR [(7,q)] id=id:=fun id hid=>by
    have:Nat.beq 7 id=false:=by rw[←Bool.not_eq_true];intro e;have:=Nat.eq_of_beq_eq_true e;omega
    simp only [tabR,this]
  refine qbb.canon (ρ:=tabR [(7,q)]) (st2:=⟨stH d (outsV 7 a.outs.length) (qcp mkV a.E) a.cl (outsH d 7 a.outs),8⟩) (htab 6 (by omega)) (by show 6<8;omega) (fun x hx=>by
    obtain rfl:=List.mem_singleton.1 hx
    exact Below.agg (qb2.ok ⟨qa3 _ _ _,qa3 _ _ _,trivial⟩)) ?_ (qwh d gd f hf a hlen) fun v st2' hk=>?_
  · refine stX (fm:=none) (G:=qn0 d a.outs) _ htab (m:=q) (by omega) (by rfl) (by omega) (fun _=>by omega) (by omega) rfl rfl rfl rfl rfl rfl rfl ?_
    cases ho:a.outs with
    | nil=>exact .inl rfl
    | cons f0 l =>
      refine .inr ⟨?_,rfl⟩
      show Hp.get (stH d _ _ _ [(q,.cells none false (qn0 d (f0::l)))]) q=_
      simp only [stH,chB,List.cons_append,List.nil_append,Hp.get]
      rw[if_neg (by omega),if_neg (by omega),if_neg (by omega),if_neg (by omega),if_neg (by omega),if_neg (by omega),if_neg (by omega)]
      simp
  · obtain⟨rfl,m,n2,G,fm,h2,rfl,hn2,k6,k5,k4,k3,k2,k1,k0,ka⟩:=hk
    obtain⟨b,hb⟩:∃ b,a.next d f=b:=⟨_,rfl⟩
    rw[hb] at k3 k2 ka
    rw[hb]
    by_cases ho:b.outs=[]
    · refine⟨⟨⟨stH d (outsV n b.outs.length) (qcp mkV b.E) b.cl (outsH d n b.outs),n+1⟩,sgm 7 n2 n,⟨rfl,by show 55≤n+1;omega,n,rfl,hn,.inl ho⟩,Below.lit,by show n≤n+1;omega,?_,fun id hid=>?_⟩⟩
      · refine stX (fm:=none) (G:=[]) (sgm 7 n2 n) (fun id hid=>if_pos hid) (m:=7) (by omega) ?_ (by omega) (fun hne=>absurd ho hne) (by omega) k6 k5 k4 (by rw[ho] at k3 ⊢;exact k3) k2 k1 k0 (.inl ho)
        show(if n≤6 then n else if n<n then n2+n else 7)=7
        rw[if_neg (by omega),if_neg (by omega)]
      · by_cases h6:id≤6
        · exact .inl ⟨if_pos h6,htab id h6,by show id<8;omega⟩
        · refine .inr ?_
          show(if id≤6 then id else if id<n then n2+id else 7)=n2+id
          rw[if_neg h6,if_pos hid]
    · obtain⟨hm7,hmn,hma,hG⟩:=ka.resolve_left ho
      refine⟨⟨⟨stH d (outsV n b.outs.length) (qcp mkV b.E) b.cl (outsH d n b.outs),n+1⟩,sgm m n2 n,⟨rfl,by show 55≤n+1;omega,n,rfl,hn,.inr (by show n<n+1;omega)⟩,Below.lit,by show n≤n+1;omega,?_,fun id hid=>?_⟩⟩
      · refine stX (sgm m n2 n) (fun id hid=>if_pos hid) (m:=m) hm7 ?_ (by omega) (fun _=>by omega) (by omega) k6 k5 k4 k3 k2 k1 k0 (.inr ⟨hma,hG⟩)
        show(if n≤6 then n else if n<n then n2+n else m)=m
        rw[if_neg (by omega),if_neg (by omega)]
      · by_cases h6:id≤6
        · exact .inl ⟨if_pos h6,htab id h6,by show id<8;omega⟩
        · refine .inr ?_
          show(if id≤6 then id else if id<n then n2+id else m)=n2+id
          rw[if_neg h6,if_pos hid]
theorem qpm {d:qai}{a:Pr}{h:Hp}{n:Nat}(hK:stKq d a h n):49≤n∧∀ id o,h.get id=some o→id<n∧(id<49∨55≤id):=by
  obtain⟨hn,q,rfl,hq,hqn⟩:=hK
  refine⟨by omega,fun id o ho=>?_⟩
  rcases qn7 ho with ⟨h,_⟩ | ⟨h,_⟩ | ⟨h,_⟩ | ⟨h,_⟩ | ⟨h,_⟩ | ⟨h,_⟩ | ⟨h,_⟩ | ⟨h,hne,_⟩
  all_goals try omega
  have:=hqn.resolve_left hne
  omega
theorem qwi {d:qai}{a:Pr}{h:Hp}{n:Nat}(hK:stKq d a h n):∀ id o,h.get id=some o→o.own=true:=fun id o ho=>by
  obtain⟨_,q,rfl,_,_⟩:=hK
  rcases qn7 ho with ⟨_,h⟩ | ⟨_,h⟩ | ⟨_,h⟩ | ⟨_,h⟩ | ⟨_,h⟩ | ⟨_,h⟩ | ⟨_,h⟩ | ⟨_,_,h⟩ <;> rw[h] <;> rfl
theorem qpl (d:qai)(gd:d.Good)(f:Nat→Int)(hf:∀ m,m<d.nw+d.nl→d.ulo m≤f m∧f m≤d.uhi m)(a:Pr)(hlen:a.outs.length<100000)(h:Hp)(n:Nat)(hK:stKq d a h n)(R:Hp)(hR:∀ p∈R,(49≤p.1∧p.1<55)∧p.2.own=true∧p.2.fam=none) :
    qbb Try.prog 6 [qwc f d.nw d.nl] ⟨R++h,n⟩ (fun v st'=>v=.lit (.bool true)∧∃ h' n',st'=⟨R++h',n'⟩∧stKq d (a.next d f) h' n'):=by
  have hids:=qpm hK
  have ha:qsa R ⟨h,n⟩:=⟨fun id o ho=>(hR _ (Hp.qa2 ho)).2.1,fun id o ho=>by
    cases hg:Hp.get h id with
    | none=>rfl
    | some o' =>
      have h1:=(hids.2 id o' hg).2
      have h2:49≤id∧id<55:=(hR _ (Hp.qa2 ho)).1
      omega,fun i j oi oj hi _ ⟨f,k1,_⟩=>by
    have h2:oi.fam=none:=(hR _ (Hp.qa2 hi)).2.2
    rw[h2] at k1;cases k1⟩
  refine(qbb.frame ha (st_core d gd f hf a hlen h n hK) fun v st' hk id o ho=>.inl (qwi hk.2 id o ho)).mono fun v s hs=>?_
  obtain⟨st',⟨hv,hk⟩,rfl⟩:=hs
  exact⟨hv,st'.h,st'.n,rfl,hk⟩
end Go.Fz
namespace Go.Fz
open Go.Proofs
set_option maxRecDepth 100000
section
variable {α:Type}(next:α→(Nat→Int)→α)(len:α→Nat)(N:Nat)(lo hi:Nat→Int)
def qse:Nat→Nat→Nat
  | 0,_=>1
  | j+1,i=>(hi i - lo i+1).toNat*qse j (i+1)
theorem qj3 {F:Int→α→α}{b:Nat}(h:∀ v a,len (F v a)≤len a+b)(l:Int)(a:α):∀ c,len (qiy F l c a)≤len a+c*b
  | 0=>by show len a≤_;omega
  | c+1=>by
    have h1:=h (l+c) (qiy F l c a)
    have h2:=qj3 h l a c
    show len (F _ _)≤_
    rw[Nat.succ_mul];omega
theorem qj4 (hs:∀ a f,len (next a f)≤len a+1):∀ (j i:Nat)(f:Nat→Int)(a:α),len (qfs next N lo hi j i f a)≤len a+qse lo hi j i
  | 0,_,_,a=>hs a _
  | j+1,i,_,a=>qj3 len (fun _ a=>qj4 hs j (i+1) _ a) (lo i) a _
theorem qq9 (hs:∀ a f,len (next a f)≤len a+1)(M:Nat):∀ (j i:Nat)(f:Nat→Int)(a:α),len a+qse lo hi j i≤M→allE (fun a=>len a<M) next N lo hi j i f a
  | 0,i,f,a,h=>by
    have:qse lo hi 0 i=1:=rfl
    show len a<M
    omega
  | j+1,i,f,a,h=>fun c hc=>by
    refine qq9 hs M j (i+1) _ _ ?_
    have h1:=qj3 len (fun v a=>qj4 next len N lo hi hs j (i+1) (qhf f i v) a) (lo i) a c
    have h2:qse lo hi (j+1) i=(hi i - lo i+1).toNat*qse lo hi j (i+1):=rfl
    have h3:(c+1)*qse lo hi j (i+1)≤(hi i - lo i+1).toNat*qse lo hi j (i+1):=Nat.mul_le_mul_right _ hc
    rw[Nat.succ_mul] at h3
    omega
theorem qoc (M:Nat)(hb:∀ m,m<M→0≤lo m∧lo m≤hi m∧hi m≤5000)(h:qgb lo hi M=false):∀ i,i≤M→1≤prN lo hi i∧prN lo hi i≤2000∧(∀ i',i=i'+1→prN lo hi i=prN lo hi i'*(hi i' - lo i'+1))
  | 0,_=>⟨Int.le_refl 1,by show(1:Int)≤2000;omega,fun _ e=>by cases e⟩
  | i+1,hi'=>by
    have h1:=qoc M hb h i (by omega)
    have h2:prN lo hi (i+1)≤2000:=by
      have:qdz M (fun i=>decide (prN lo hi (i+1)≤2000))=true:=by simpa[qgb] using h
      have:=of_decide_eq_true this i (by omega)
      simpa using this
    have h3:=hb i (by omega)
    have h4:qds (lo i) (hi i)=hi i - lo i+1:=by
      unfold qds
      rw[show qrj (hi i) (lo i)=hi i - lo i from qiz _ _ (by omega) (by omega),qf7 _ _ (by omega) (by omega)]
    have h5:0≤prN lo hi i*(hi i - lo i+1):=Int.mul_nonneg (by omega) (by omega)
    have h6:prN lo hi i*(hi i - lo i+1)≤2000*5001:=Int.mul_le_mul h1.2.1 (by omega) (by omega) (by omega)
    have h7:prN lo hi (i+1)=prN lo hi i*(hi i - lo i+1):=by
      show qic (prN lo hi i) (qds (lo i) (hi i))=_
      rw[h4,qp4 _ _ (by omega) (by omega)]
    have h8:1*1≤prN lo hi i*(hi i - lo i+1):=Int.mul_le_mul h1.1 (by omega) (by omega) (by omega)
    exact⟨by rw[h7];omega,h2,fun i' e=>by cases e;exact h7⟩
theorem qq4 (M:Nat)(hb:∀ m,m<M→0≤lo m∧lo m≤hi m∧hi m≤5000)(h:qgb lo hi M=false):∀ j i,i+j=M→prN lo hi i*(qse lo hi j i:Int)=prN lo hi M
  | 0,i,e=>by
    obtain rfl:i=M:=by omega
    show prN lo hi i*((1:Nat):Int)=_
    omega
  | j+1,i,e=>by
    have h1:=qq4 M hb h j (i+1) (by omega)
    have h2:=(qoc lo hi M hb h (i+1) (by omega)).2.2 i rfl
    have h3:=hb i (by omega)
    show prN lo hi i*(((hi i - lo i+1).toNat*qse lo hi j (i+1):Nat):Int)=_
    rw[Int.natCast_mul,Int.toNat_of_nonneg (by omega),←Int.mul_assoc,←h2,h1]
end
def stNx (d:qai)(a:Pr)(f:Nat→Int):Pr:=a.next d f
theorem qil {d:qai}(h:d.check=0):qgb d.ulo d.uhi (d.nw+d.nl)=false:=by
  unfold qai.check at h
  split at h
  · omega
  · split at h
    · split at h
      · omega
      · rename_i hm;simpa using hm
    · omega
theorem qnw {d:qai}(h:d.check=0):qse d.ulo d.uhi (d.nw+d.nl) 0≤2000:=by
  have gd:=qb0 h
  have h1:=qq4 d.ulo d.uhi (d.nw+d.nl) (qpj gd) (qil h) (d.nw+d.nl) 0 (by omega)
  have h2:=(qoc d.ulo d.uhi (d.nw+d.nl) (qpj gd) (qil h) (d.nw+d.nl) (Nat.le_refl _)).2.1
  have h3:prN d.ulo d.uhi 0=1:=rfl
  rw[h3,Int.one_mul] at h1
  omega
theorem qp2 (d:qai)(a:Pr)(f:Nat→Int):(stNx d a f).outs.length≤a.outs.length+1:=by
  unfold stNx Pr.next
  simp only
  split
  · rw[List.length_append,List.length_singleton]
    exact Nat.le_refl _
  · omega
def pr0:Pr:=⟨[],0,[]⟩
def qai.seen (d:qai):Pr:=qfs (stNx d) (d.nw+d.nl) d.ulo d.uhi (d.nw+d.nl) 0 (fun _=>0) pr0
theorem qo3 {d:qai}{qbm:Nat→Int}(h:∀ m,m<d.nw+d.nl→d.ulo m≤qbm m∧qbm m≤d.uhi m):∀ m,m<d.nw+d.nl→d.ulo m≤qea (d.nw+d.nl) qbm m∧qea (d.nw+d.nl) qbm m≤d.uhi m:=fun m hm=>by
  unfold qea;rw[if_pos hm];exact h m hm
theorem chO_ok (y N nw:Nat)(lo hi:Nat→Int)(G:List AV):∀ p∈chO y N nw lo hi G,(49≤p.1∧p.1<55)∧p.2.own=true∧p.2.fam=none:=fun p hp=>by
  simp only [chO,List.mem_cons,List.not_mem_nil,or_false] at hp
  rcases hp with rfl | rfl | rfl | rfl | rfl | rfl <;> exact⟨by simp,rfl,rfl⟩
theorem chOs_ok (y N nw:Nat)(lo hi:Nat→Int)(G:List AV):∀ p∈chOs y N nw lo hi G,(49≤p.1∧p.1<55)∧p.2.own=true∧p.2.fam=none:=fun p hp=>by
  simp only [chOs,List.mem_cons,List.not_mem_nil,or_false] at hp
  rcases hp with rfl | rfl | rfl | rfl | rfl | rfl <;> exact⟨by simp,rfl,rfl⟩
theorem qm0 (d:qai)(hc:d.check=0) :
    qax Try.prog 122 [.yld 6,.ptr 4 0] ⟨stH d nl3 [] 0 [],7⟩ (fun _ st'=>∃ h n,st'=⟨h,n⟩∧stKq d d.seen h n):=by
  have gd:=qb0 hc
  refine qo4 (fun a:Pr=>a.outs.length<100000) (stKq d) (stNx d) d gd (.loop stR) _ pr0 (fun a h n hK=>qpm hK) ⟨Nat.le_refl _,55,rfl,Nat.le_refl _,.inl rfl⟩
    (qq9 (stNx d) (fun a=>a.outs.length) _ _ _ (fun a f=>qp2 d a f) 100000 _ _ _ _ (by have:=qnw hc;show 0+_≤_;omega)) ?_ ?_
  · intro qbm a h n hin hok hK
    exact(qpl d gd _ (qo3 hin) a hok h n hK _ (chO_ok 6 (d.nw+d.nl) d.nw d.ulo d.uhi (flatG 1 (qb6 qbm) (d.nw+d.nl)))).mono fun v st' ⟨hv,h',n',hst,hk⟩=>.inl ⟨hv,qbm,h',n',rfl,hst,hk⟩
  · intro qbm a h n hin hok hK
    exact(qpl d gd _ (qo3 hin) a hok h n hK _ (chOs_ok 6 (d.nw+d.nl) d.nw d.ulo d.uhi (flatG 1 (qb6 qbm) (d.nw+d.nl)))).mono fun v st' ⟨hv,h',n',hst,hk⟩=>.inl ⟨hv,qbm,h',n',rfl,hst,hk⟩
end Go.Fz
namespace Go.Fz
open Go.Proofs
set_option maxRecDepth 100000
section
variable {P:Program}{T:Ti}
def mkmAt (ops:Array Oper)(i:Nat)(f:Fm):Bool:=match ops[i]? with
  | none=>false
  | some o=>match wantA ops f.ts o with
    | some true=>match o.op with
      | .makeMap _ none=>true
      | _=>false
    | _=>false
theorem qac.mkMap {rd:Option Nat}{ops:Array Oper}{K:Fm→St→Prop}{f:Fm}{st:St}{i:Nat}{l:List Nat}(hx:mkmAt ops i f=true)(h:qac P rd ops l K (putAt ops i f (.mp st.n)) (st.push (.map [] 0))):qac P rd ops (i::l) K f st:=by
  unfold mkmAt at hx
  split at hx
  · cases hx
  · rename_i o ho
    split at hx
    · rename_i hw
      split at hx
      · rename_i t hop
        have hput:∀ v,putAt ops i f v=f.put o.dst v:=fun v=>by simp[putAt,ho]
        rw[hput] at h
        refine qac.value ho hw (fun c hc=>by rw[hop] at hc;cases hc) (fun φ w a h2 h3=>?_) h
        have hp:=h2.push (.map #[] 0) (.map [] 0) ⟨w.heap.size,0,0⟩ rfl ⟨#[],by rw[Fi.qae];exact qaw w _,rfl,fun i x h=>by simp at h⟩ (fun _ h=>by cases h)
        refine⟨_,_,.map (some w.heap.size),.inl ?_,?_,hp.1,φ.qan _,hp.2⟩
        · simp[execOp,hop,Instr.makeMap,Result.andThen]
        · have:=VR.mp (φ:=φ.push ⟨w.heap.size,0,0⟩) φ.n (by rw[Fi.qge];omega)
          rw[Fi.qae] at this
          rw[←h2.n];exact this
      · cases hx
    · cases hx
end
section
variable {P:Program}
theorem qac.qdu {rd:Option Nat}{ops:Array Oper}{i:Nat}{l:List Nat}{K:Fm→St→Prop}{f:Fm}{st:St}{g:FuncId}{args:List AV}{k:AV→St→Prop}(he:Enters P g)(hp:qax P g args st k)(hc:callAt ops i f=some (g,args))
    (h:∀ v st',k v st'→qac P rd ops l K (putAt ops i f v) st'):qac P rd ops (i::l) K f st:=by
  obtain⟨o,first,caps,az,ho,hw,hcc,ha,hput⟩:=qeu hc
  subst ha
  exact qac.call ho hw hcc (show ApplyW P (.fn (.func g) first caps) az st _ from⟨he,hp.mono fun v st' hk=>by have:=h v st' hk;rwa [hput] at this⟩)
end
def outsI (d:qai):List (Nat→Int)→AV
  | []=>nl3
  | f::l=>.isl (l.length+1) 8 false (qkn d (f::l))
theorem qjo (d:qai)(l:List (Nat→Int)):Below 0 (outsI d l):=by
  cases l with
  | nil=>exact Below.lit
  | cons f l=>exact Below.isl fun i k _ _=>qk6 d _ i k
theorem qvi (d:qai)(h:Hp)(n:Nat):qax Try.prog 105 [qdp d] ⟨h,n⟩ (fun v st'=>v=.fn (.func 122) [] [.ptr n 0]∧st'=⟨(n,.cells none false (qgc d))::h,n+1⟩):=by
  obtain⟨O,hO⟩:∃ O:Ar,O=std:=⟨_,rfl⟩
  refine qat tok Try.func105 rfl ?_
  refine SW.qab tok hO (by cbv <;> rfl) (by trivial) ?_
  refine SW.qab tok hO (by cbv <;> rfl) (by trivial) ?_
  exact SW.ret ⟨_,_,rfl,rfl,rfl,rfl⟩
end Go.Fz
namespace Go.Fz
variable {P:Program}{T:Ti}
theorem Hp.qii {p:Nat→Bool}:∀ {h:Hp}{id:Nat}{o:AObj},h.get id=some o→p id=true→Hp.get (h.filter fun x=>p x.1) id=some o
  | [],id,o,h,_=>by simp[Hp.get] at h
  | (i,x)::r,id,o,h,hp=>by
    simp only [Hp.get] at h
    simp only [List.filter_cons]
    split at h
    · rename_i hi;subst hi;cases h
      rw[if_pos hp];simp[Hp.get]
    · rename_i hi
      have:=Hp.qii h hp
      split
      · simp only [Hp.get];rw[if_neg hi];exact this
      · exact this
def qkw (r:Nat→AV)(id:Nat)(v:AV):Prop:=∀ (φa φb:Fi)(u:Value)(k:Nat),φb.f k=φa.f id→k<φb.n→φb.z=φa.z→VR φa v u→VR φb (r k) u
theorem qkw.closed {a:AV}{id:Nat}(h:Below 0 a):qkw (fun _=>a) id a:=fun φa φb u k _ _ h3 hv=>by
  have h1:=h _ _ hv
  exact VR.mono (φ:=⟨φa.f,0,φa.z⟩) ⟨Nat.zero_le _,fun id hid=>absurd hid (Nat.not_lt_zero id),fun b c hb=>by rw[h3];exact hb⟩ h1
theorem qkw.mp {id:Nat}:qkw (fun k=>.mp k) id (.mp id):=fun φa φb u k h1 h2 h3 hv=>by
  obtain⟨rfl,_⟩:=hv.qiv
  rw[←h1]
  exact VR.mp k h2
theorem qkw.eqv {r:Nat→AV}{id:Nat}{a b:AV}(h:qkw r id b)(he:Eqv a b):qkw r id a:=fun φa φb u k h1 h2 h3 hv=>h φa φb u k h1 h2 h3 (he _ _ hv)
inductive qpb:(Nat→List AV)→Nat→List AV→Prop
  | nil {id:Nat}:qpb (fun _=>[]) id []
  | cons {r:Nat→AV}{rs:Nat→List AV}{id:Nat}{v:AV}{vs:List AV}(h:qkw r id v)(k:qpb rs id vs):qpb (fun n=>r n::rs n) id (v::vs)
theorem qpb.ok {rs:Nat→List AV}{id:Nat}{vs:List AV}(h:qpb rs id vs):∀ (φa φb:Fi)(us:List Value)(k:Nat),φb.f k=φa.f id→k<φb.n→φb.z=φa.z→VRL φa vs us→VRL φb (rs k) us:=by
  induction h with
  | nil=>intro φa φb us k _ _ _ hv;cases hv;exact .nil
  | cons h _ ih=>intro φa φb us k h1 h2 h3 hv;cases hv with | cons a b=>exact .cons (h φa φb _ k h1 h2 h3 a) (ih φa φb _ k h1 h2 h3 b)
theorem qkw.agg {rs:Nat→List AV}{id:Nat}{vs:List AV}(h:qpb rs id vs):qkw (fun k=>.agg (rs k)) id (.agg vs):=fun φa φb u k h1 h2 h3 hv=>by
  obtain⟨us,rfl,hu⟩:=hv.qbd
  exact .agg (h.ok φa φb us k h1 h2 h3 hu)
theorem qkw.tup {rs:Nat→List AV}{id:Nat}{vs:List AV}(h:qpb rs id vs):qkw (fun k=>.tup (rs k)) id (.tup vs):=fun φa φb u k h1 h2 h3 hv=>by
  cases hv with
  | tup hu=>exact .tup (h.ok φa φb _ k h1 h2 h3 hu)
structure qpc (P:Program)(g:FuncId)(args:List AV)(r:Nat→AV)(es:List (AV × AV × Nat))(clock:Nat):Prop where
  ent:Enters P g
  call:∀ st,qax P g args st (fun v st'=>v=r st.n∧st'=st.push (.map es clock))
theorem qmu {g:FuncId}{args:List AV}{r:Nat→AV}{es:List (AV × AV × Nat)}{clock:Nat}(m:Nat)(hent:Enters P g)(ha:qb2 0 args)(hes:∀ x∈es,Below 0 x.1∧Below 0 x.2.1)
    (h:qax P g args ⟨[],0⟩ (fun v st'=>∃ id,st'.h.get id=some (.map es clock)∧freeB st'.h (fun i=>!Nat.beq i id)=true∧qkw r id (frz st'.h (fun i=>!Nat.beq i id) m v))):qpc P g args r es clock:=by
  refine⟨hent,fun st φ w cargs n hrel hargs=>?_⟩
  have hrel0:Rel ⟨φ.f,0,φ.z⟩ ⟨[],0⟩ w:=⟨rfl,fun _ _ h=>by simp[Hp.get] at h,fun _ _ h=>by simp[Hp.get] at h,fun _ _ h=>by simp[Hp.get] at h,fun _ _ _ _ h=>by simp[Hp.get] at h,fun _ _ _ h=>by simp[Hp.get] at h,
    fun b c hb=>⟨(hrel.qdk b c hb).1,(hrel.qdk b c hb).2.1,fun _ _ h=>by simp[Hp.get] at h⟩⟩
  refine(h ⟨φ.f,0,φ.z⟩ w cargs n hrel0 (Below.list ha.ok hargs)).mono fun e w1 hp=>?_
  obtain⟨v,cv,st1,φ1,rfl,⟨id,hid,hfree,hv⟩,hvr,hext,hrel1,hfr⟩:=hp
  obtain⟨hrel2,hfr2⟩:=hrel1.freeze hfree
  have hvr2:=qgg (D:=fun i=>!Nat.beq i id) hrel1 m hvr
  have hfr3:=hfr.trans hfr2
  have hnone:∀ b,¬ qfv ⟨φ.f,0,φ.z⟩ ⟨[],0⟩ b:=fun b ⟨id,o,h,_⟩=>by simp[Hp.get] at h
  have hzs:∀ b c,zOf φ1 st1.h (fun i=>!Nat.beq i id) w1 b=some c→φ.z b=some c∨w.heap.size≤b:=fun b c hb=>(hfr3.zs b c hb).elim .inl fun h=>h.elim (fun ho=>absurd ho (hnone b)) .inr
  have hsame:∀ k,k<w.heap.size→w1.heap[k]?=w.heap[k]?:=fun k hk=>hfr3.block k hk (hnone k)
  have hnew:w.heap.size≤(φ1.f id).b:=(hfr.own (φ1.f id).b ⟨id,_,hid,rfl,rfl⟩).elim (fun ho=>absurd ho (hnone _)) fun h=>h
  have hkeep:(st1.qhb fun i=>!(fun i=>!Nat.beq i id) i).h.get id=some (.map es clock):=Hp.qii (p:=fun i=>!(fun i=>!Nat.beq i id) i) hid (by simp[Nat.beq_refl])
  obtain⟨φ',hφ'⟩:∃ φ':Fi,φ'=⟨fun j=>if j<φ.n then φ.f j else φ1.f id,φ.n+1,zOf φ1 st1.h (fun i=>!Nat.beq i id) w1⟩:=⟨_,rfl⟩
  have hf1:∀ j,j<φ.n→φ'.f j=φ.f j:=fun j hj=>by rw[hφ'];exact if_pos hj
  have hf2:φ'.f st.n=φ1.f id:=by rw[hφ',←hrel.n];exact if_neg (Nat.lt_irrefl _)
  have hz:φ'.z=zOf φ1 st1.h (fun i=>!Nat.beq i id) w1:=by rw[hφ']
  have hn:φ'.n=st.n+1:=by rw[hφ',←hrel.n]
  have hext3:Ext φ φ':=⟨by rw[hn,hrel.n];omega,hf1,fun b c hb=>by rw[hz];exact qgi (hext.z b c hb)⟩
  have hold:∀ j o,st.h.get j=some o→φ'.f j=φ.f j:=fun j o ho=>hf1 j (by rw[hrel.n];exact hrel.lt j o ho)
  refine⟨r st.n,cv,st.push (.map es clock),φ',rfl,⟨rfl,rfl⟩,hv (φ1.qdk st1.h (fun i=>!Nat.beq i id) w1) φ' cv st.n hf2 (by rw[hn];omega) hz hvr2,hext3,?_,?_⟩
  · refine⟨hn,fun j o hj=>?_,fun j o hj=>?_,fun j o hj=>?_,fun i j oi oj hi hj hij ho hb=>?_,fun j o f hj hf=>?_,fun b c hb=>?_⟩
    · rw[St.qaz] at hj
      split at hj
      · show j<st.n+1;omega
      · show j<st.n+1;have:=hrel.lt j o hj;omega
    · rw[St.qaz] at hj
      split at hj
      · rename_i e;subst e;rw[hf2];exact hrel1.blk id _ hid
      · rw[hold j o hj];have:=hrel.blk j o hj;have:=hfr3.size;omega
    · rw[St.qaz] at hj
      split at hj
      · rename_i e;subst e;cases hj
        obtain⟨ces,h1,h2,h3⟩:=hrel1.obj id _ hid
        refine⟨ces,by rw[hf2];exact h1,h2,fun i x hx=>?_⟩
        obtain⟨e,k1,k2,k3,k4⟩:=h3 i x hx
        obtain⟨b1,b2⟩:=hes x (List.mem_of_getElem? hx)
        have hm:Ext ⟨φ1.f,0,φ1.z⟩ φ':=⟨Nat.zero_le _,fun id hid=>absurd hid (Nat.not_lt_zero id),fun b c hb=>by rw[hz];exact qgi hb⟩
        exact⟨e,k1,VR.mono hm (b1 _ _ k2),VR.mono hm (b2 _ _ k3),k4⟩
      · exact(hrel.obj j o hj).same hext3 (by rw[hrel.n];exact hrel.lt j o hj) (hsame _ (hrel.blk j o hj))
    · rw[St.qaz] at hi hj
      split at hi
      · rename_i e;subst e
        split at hj
        · rename_i e2;exact absurd e2 hij
        · rw[hf2,hold j oj hj] at hb
          have:=hrel.blk j oj hj;omega
      · split at hj
        · rename_i e;subst e
          rw[hf2,hold i oi hi] at hb
          have:=hrel.blk i oi hi;omega
        · rw[hold i oi hi,hold j oj hj] at hb ⊢
          exact hrel.sep i j oi oj hi hj hij ho hb
    · rw[St.qaz] at hj
      split at hj
      · cases hj;cases hf
      · have:=hrel.fam j o f hj hf;show f<st.n+1;omega
    · rw[hz] at hb
      obtain⟨h1,h2,h3⟩:=hrel2.qdk b c hb
      refine⟨h1,h2,fun j o hj hown hbb=>?_⟩
      rw[St.qaz] at hj
      split at hj
      · rename_i e;subst e;cases hj
        rw[hf2] at hbb
        exact h3 id _ hkeep rfl hbb
      · rw[hold j o hj] at hbb
        rcases hzs b c hb with h4 | h4
        · exact(hrel.qdk b c h4).2.2 j o hj hown hbb
        · have:=hrel.blk j o hj;omega
  · refine⟨hfr3.os,hfr3.tape,hfr3.output,hfr3.size,fun k hk _=>hsame k hk,fun k ⟨j,o,hj,ho,hb⟩=>?_,fun b c hb=>(hzs b c (by rw[←hz];exact hb)).elim .inl fun h=>.inr (.inr h)⟩
    rw[St.qaz] at hj
    split at hj
    · rename_i e;subst e
      rw[hf2] at hb
      exact .inr (by omega)
    · exact .inl ⟨j,o,hj,ho,by rw[←hb,hold j o hj]⟩
theorem qe6 (hT:TOk P T){g:FuncId}{fn:Func}{c:Code}{args:List AV}{r:Nat→AV}{es:List (AV × AV × Nat)}{clock:Nat}(m:Nat)(hf:P.funcs[g]?=some fn)(hent:Enters P g)(hb:fn.body=some c)(ha:qb2 0 args)(hes:∀ x∈es,Below 0 x.1∧Below 0 x.2.1)
    (h:SW P none c (retQ T fn (fun v st'=>∃ id,st'.h.get id=some (.map es clock)∧freeB st'.h (fun i=>!Nat.beq i id)=true∧qkw r id (frz st'.h (fun i=>!Nat.beq i id) m v))) ⟨Ts.of args fn.ntmps,[]⟩ ⟨[],0⟩):qpc P g args r es clock :=
  qmu m hent ha hes (qat hT hf hb h)
end Go.Fz
namespace Go.Fz
open Go.Proofs
set_option maxRecDepth 100000
def workC (d:qai)(l:List (Nat→Int))(k:Nat):List AV:=[iV d.hand,iV d.flat,qcv d,qdg d,qd8 d,outsI d l,.mp k]
def qn3 (d:qai)(l:List (Nat→Int))(k:Nat):AV:=.agg (workC d l k)
theorem qru {h:Hp}{D:Nat→Bool}(hf:∀ x∈h,x.2.fam=none):freeB h D=true:=List.all_eq_true.2 fun x hx=>by
  simp[hf x hx]
theorem frz_outs {d:qai}{f:Nat→Int}{l:List (Nat→Int)}{h:Hp}{q:Nat}(hq:55≤q)(hg:h.get q=some (.cells none false (qn0 d (f::l)))) :
    qkw (qn3 d (f::l)) 2 (frz h (fun i=>!Nat.beq i 2) 3 (.agg [iV d.hand,iV d.flat,qcv d,qdg d,qd8 d,.sl q 0 (l.length+1) 8 false,.mp 2])):=by
  have hlen:(qn0 d (f::l)).length=(l.length+1)*8:=qof d _
  have hD:(fun i=>!Nat.beq i 2) q=true:=by
    have:Nat.beq q 2=false:=by rw[←Bool.not_eq_true];intro e;have:=Nat.eq_of_beq_eq_true e;omega
    simp only [this];rfl
  have h1:frz h (fun i=>!Nat.beq i 2) 2 (.sl q 0 (l.length+1) 8 false)=.isl (l.length+1) 8 false (fun i k=>frz h (fun i=>!Nat.beq i 2) 1 ((qn0 d (f::l)).getD (0+i*8+k) .any)):=by
    simp only [frz]
    rw[if_pos hD,hg]
    simp only
    rw[if_pos (by omega)]
  have h2:Eqv (frz h (fun i=>!Nat.beq i 2) 2 (.sl q 0 (l.length+1) 8 false)) (outsI d (f::l)):=by
    rw[h1]
    refine Eqv.isl rfl fun i k hi hk=>Eqv.of ?_
    have h3:=qc2 8 (qkn d (f::l)) (l.length+1) i k hi hk
    rw[Nat.zero_add,List.getD_eq_getElem?_getD]
    show frz h _ 1 ((flatG 8 (qkn d (f::l)) (l.length+1))[i*8+k]?.getD .any)=_
    rw[h3]
    show frz h _ 1 (qkn d (f::l) i k)=_
    unfold qkn outcC
    split <;> rfl
  exact qkw.agg (rs:=workC d (f::l)) (.cons (.closed Below.lit) (.cons (.closed Below.lit) (.cons (.closed (qau d)) (.cons (.closed (qa0 d)) (.cons (.closed (qbl d)) (.cons ((qkw.closed (qjo d _)).eqv h2) (.cons .mp .nil)))))))
set_option maxHeartbeats 8000000 in
theorem qlz (d:qai)(hc:d.check=0):qpc Try.prog 76 [qdp d] (qn3 d d.seen.outs) (qcp mkV d.seen.E) d.seen.cl:=by
  obtain⟨O,hO⟩:∃ O:Ar,O=std:=⟨_,rfl⟩
  have hch:=qm0 d hc
  refine qe6 tok 3 Try.func76 en76 rfl ⟨qal d,trivial⟩ (qe2 _) ?_
  refine SW.qab tok hO (by cbv <;> rfl) (by trivial) ?_
  refine SW.seq (SW.runN tok hO 1 (by cbv <;> rfl) (by trivial) ?_)
  refine qac.mkMap (by rfl) ?_
  refine qac.run tok hO (by cbv <;> rfl) (by trivial) ?_
  refine SW.seq ?_
  refine SW.qab tok hO (by cbv <;> rfl) (by trivial) ?_
  refine qac.qdu en105 (qvi d _ _) (by cbv <;> rfl) fun v st' hk=>?_
  obtain⟨rfl,rfl⟩:=hk
  refine qac.run tok hO (by cbv <;> rfl) (by trivial) ?_
  refine SW.block ?_
  refine SW.pre (f2:=⟨stTs,[]⟩) (st2:=⟨[(4,.cells none false (qgc d)),(3,.cells none false (stW d nl3)),(2,.map [] 0),(1,.cells none false stZ),(0,.cells none false (qgc d))],5⟩) ?_ ?_
  · exact qdt.by rfl rfl (fun _ h=>nomatch h) (Nat.le_refl _) (Nat.le_refl _) ⟨⟨rfl,.inl rfl⟩,⟨rfl,.inl rfl⟩,⟨rfl,.inl rfl⟩,⟨rfl,.inl rfl⟩,trivial⟩ ⟨⟨rfl,by show _<5;omega,.inl rfl⟩,⟨rfl,by show _<5;omega,.inl rfl⟩,⟨rfl,by show _<5;omega,.inl rfl⟩,⟨rfl,by show _<5;omega,.inl rfl⟩,⟨rfl,by show _<5;omega,.inl rfl⟩,trivial⟩
  refine SW.rangeFunc (gf:=122) (first:=[]) (caps:=[.ptr 4 0]) (by rfl) en122 ?_
  refine qax.mono (show qax Try.prog 122 [.yld 6,.ptr 4 0] ⟨stH d nl3 [] 0 [],7⟩ _ from hch) fun v st' hk=>?_
  obtain⟨h,n,rfl,hn,q,rfl,hq,hqn⟩:=hk
  refine⟨stR,rfl,?_⟩
  refine And.intro (fun h=>by simp[stR] at h) ?_
  show SW Try.prog none _ _ ⟨stTs,[5]⟩ ⟨(6,.loop { stR with state:=.exhausted})::(5,.dfr)::(4,.cells none false (qgc d))::(3,.cells none false (stW d (outsV q d.seen.outs.length)))::(2,.map (qcp mkV d.seen.E) d.seen.cl)::(1,.cells none false stZ)::(0,.cells none false (qgc d))::outsH d q d.seen.outs,n⟩
  generalize ({ stR with state:=.exhausted}:qcu)=LE
  generalize qcp mkV d.seen.E=ME
  generalize d.seen.cl=cl
  generalize d.seen.outs=outs at hqn ⊢
  cases outs with
  | nil =>
    refine SW.qab tok hO (by cbv <;> rfl) (by trivial) ?_
    refine SW.ret ⟨_,_,rfl,rfl,2,rfl,by rfl,?_⟩
    exact qkw.agg (rs:=workC d []) (.cons (.closed Below.lit) (.cons (.closed Below.lit) (.cons (.closed (qau d)) (.cons (.closed (qa0 d)) (.cons (.closed (qbl d)) (.cons (.closed Below.lit) (.cons .mp .nil)))))))
  | cons f l =>
    obtain⟨L,hL⟩:∃ n,l.length=n:=⟨_,rfl⟩
    show SW Try.prog none _ _ ⟨stTs,[5]⟩ ⟨(6,.loop LE)::(5,.dfr)::(4,.cells none false (qgc d))::(3,.cells none false (stW d (.sl q 0 (l.length+1) 8 false)))::(2,.map ME cl)::(1,.cells none false stZ)::(0,.cells none false (qgc d))::[(q,.cells none false (qn0 d (f::l)))],n⟩
    rw[hL]
    obtain⟨G,hG⟩:∃ G,qn0 d (f::l)=G:=⟨_,rfl⟩
    rw[hG]
    refine SW.qab tok hO (by cbv <;> rfl) (by trivial) ?_
    refine SW.ret ⟨_,_,rfl,rfl,2,rfl,qru fun x hx=>?_,?_⟩
    · simp only [Hp.set,List.mem_cons,List.not_mem_nil,or_false] at hx
      simp at hx
      rcases hx with rfl | rfl | rfl | rfl | rfl | rfl | rfl | rfl <;> rfl
    subst hG
    subst hL
    refine frz_outs (q:=q) hq ?_
    have e6:¬ 6=q:=by omega
    have e5:¬ 5=q:=by omega
    have e4:¬ 4=q:=by omega
    have e3:¬ 3=q:=by omega
    have e2:¬ 2=q:=by omega
    have e1:¬ 1=q:=by omega
    have e0:¬ 0=q:=by omega
    simp[Hp.set,Hp.get,e0,e1,e2,e3,e4,e5,e6]
end Go.Fz
