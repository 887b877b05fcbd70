/- Own work of the verifier of watercress: FzF3. -/
import Derived.Test.YtpefamheopplnaaMb37
set_option linter.unusedVariables false
set_option linter.unusedSimpArgs false
namespace Go.Fz
open Go.Proofs
set_option maxRecDepth 100000
theorem qlm {O:Ar}(hO:O=std){V:Int}(h0:0≤V)(h5:V<5)(a:Int)(ha:a=1∨a=2):∀ j,j<5→qr6 (O.bin .sub .i64 (O.bin .shl .i64 a (O.conv .u64 V)) 1) j=decide ((j:Int)<V+(a - 1)):=by
  subst hO
  have hV:V=0∨V=1∨V=2∨V=3∨V=4:=by omega
  intro j hj
  rcases hV with rfl | rfl | rfl | rfl | rfl <;> rcases ha with rfl | rfl <;> (match j,hj with
    | 0,_ | 1,_ | 2,_ | 3,_ | 4,_=>decide +kernel)
set_option maxHeartbeats 32000000 in
theorem qm1 (haw:Pure Try.prog 17 [] (.lit (.bool true)))(d:qai):Pure Try.prog 13 [qdp d] (.lit (.bool true)):=by
  obtain⟨O,hO⟩:∃ O:Ar,O=std:=⟨_,rfl⟩
  refine qad tok 3 Try.func13 en13 rfl ⟨qal d,trivial⟩ Below.lit ?_
  refine SW.qab tok hO (by cbv <;> rfl) (by trivial) ?_
  refine SW.seq ?_
  refine SW.qab tok hO (by cbv <;> rfl) (by trivial) ?_
  have call:=ready_ok d
  generalize hR:d.qfm=r at call
  refine qac.qas call (by cbv <;> rfl) ?_
  have hnot:O.not r=!r:=by subst hO;rfl
  refine qac.run tok hO (by cbv <;> rfl) (by trivial) ?_
  refine SW.qa6 (by cbv <;> rfl) (fun h1=>?_) (fun h1=>SW.skip ?_)
  · refine SW.qab tok hO (by cbv <;> rfl) (by trivial) ?_
    refine qac.qas haw (by cbv <;> rfl) ?_
    refine qac.run tok hO (by cbv <;> rfl) (by trivial) ?_
    exact SW.ret ⟨_,_,rfl,rfl,Eqv.refl _⟩
  have hr:r=true:=by have:=hnot.symm.trans h1;simpa using this
  rw[hr] at hR
  obtain⟨gd,_⟩:=qrm hR
  have hF:d.qd6=0:=by
    simp only [qai.qfm,Bool.and_eq_true,decide_eq_true_eq] at hR;exact hR.2
  have hc:d.check=0:=(qq5 d).trans hF
  have hnw:=gd.nw
  have hnl:=gd.nl
  have hnc:=gd.nc
  have hsm:d.small:=⟨by omega,by omega,by omega⟩
  have hday:=qvf d (by omega) (by omega) (by omega)
  have hfirst:=qu0 d hsm hc
  have hv0:0≤d.qhr:=qt4 _
  obtain⟨t0,ht0,hm0⟩:=qry d hc
  have hle:=fun t h=>qnr d (t:=t) h
  have hE:d.firstE=if(d.nc:Int)≤d.qhr then 7 else 0:=rfl
  rw[hE] at hfirst
  obtain⟨V,hV⟩:∃ V,d.qhr=V:=⟨_,rfl⟩
  rw[hV] at hfirst hv0 hm0
  by_cases hcase:(d.nc:Int)≤V
  ·
    rw[if_pos hcase,if_pos hcase] at hfirst
    have hne:d.seen.outs≠[]:=(qtt d).2 ⟨t0,ht0,(qpf hnc _).2 fun j hj=>(qmv hnc _ d.nc hnc).1 (by rw[hm0];exact hcase) j hj hj⟩
    obtain⟨X,Y,Z,p,q,r1,s,t,u,v,w,hb⟩:=qkh d hsm hc hne
    refine SW.qab tok hO (by cbv <;> rfl) (by trivial) ?_
    refine qac.qas hday (by cbv <;> rfl) ?_
    refine qac.run tok hO (by cbv <;> rfl) (by trivial) ?_
    refine qac.qas hfirst (by cbv <;> rfl) ?_
    refine qac.run tok hO (by cbv <;> rfl) (by trivial) ?_
    refine SW.seq ?_
    refine SW.qab tok hO (by cbv <;> rfl) (by trivial) ?_
    refine SW.qa6 (by cbv <;> rfl) (fun h2=>?_) (fun h2=>?_)
    rotate_left
    · exfalso;subst hO;simp[std] at h2
    refine SW.qab tok hO (by cbv <;> rfl) (by trivial) ?_
    refine qac.qas hday (by cbv <;> rfl) ?_
    refine qac.run tok hO (by cbv <;> rfl) (by trivial) ?_
    refine qac.qas hb (by cbv <;> rfl) ?_
    refine qac.run tok hO (by cbv <;> rfl) (by trivial) ?_
    refine SW.qab tok hO (by cbv <;> rfl) (by trivial) ?_
    repeat' first
      | (refine qac.qbg (by cbv <;> rfl) (fun h=>?_) (fun h=>?_) <;> refine qac.run tok hO (by cbv <;> rfl) (by trivial) ?_)
      | (refine qac.qas haw (by cbv <;> rfl) ?_;refine qac.run tok hO (by cbv <;> rfl) (by trivial) ?_)
    all_goals first
      | exact SW.ret ⟨_,_,rfl,rfl,Eqv.refl _⟩
      | (exfalso;subst hO;simp_all [std];done)
  · rw[if_neg hcase,if_neg hcase] at hfirst
    have hV5:V<5:=by omega
    obtain⟨n,hn⟩:∃ n:Nat,V=n:=⟨V.toNat,by omega⟩
    have hB1:=qlm hO hv0 hV5 1 (.inl rfl)
    have hB2:=qlm hO hv0 hV5 2 (.inr rfl)
    have hs1:=qsy d (O.bin .sub .i64 (O.bin .shl .i64 1 (O.conv .u64 V)) 1) (by omega)
    have hs2:=qsy d (O.bin .sub .i64 (O.bin .shl .i64 2 (O.conv .u64 V)) 1) (by omega)
    have hc1:=qgp hc (O.bin .sub .i64 (O.bin .shl .i64 1 (O.conv .u64 V)) 1)
    have hc2:=qgp hc (O.bin .sub .i64 (O.bin .shl .i64 2 (O.conv .u64 V)) 1)
    have hne1:(d.qdn (O.bin .sub .i64 (O.bin .shl .i64 1 (O.conv .u64 V)) 1)).seen.outs≠[]:=(qm9 hc _).2 ⟨t0,ht0,fun i hi hb=>by
      rw[hB1 i (by omega)] at hb
      have hb':(i:Int)<V+(1 - 1):=by simpa using hb
      exact(qmv hnc _ n (by omega)).1 (by rw[hm0,hn];exact Int.le_refl _) i (by omega) hi⟩
    have hno2:(d.qdn (O.bin .sub .i64 (O.bin .shl .i64 2 (O.conv .u64 V)) 1)).seen.outs=[]:=by
      cases ho:(d.qdn (O.bin .sub .i64 (O.bin .shl .i64 2 (O.conv .u64 V)) 1)).seen.outs with
      | nil=>rfl
      | cons f l =>
        exfalso
        obtain⟨t,ht,hok⟩:=(qm9 hc _).1 (by rw[ho];exact fun h=>nomatch h)
        have h1:=hle t ht
        rw[hV] at h1
        have h2:=(qmv hnc (qea (d.nw+d.nl) t) (n+1) (by omega)).2 fun j hj hjc=>hok j hjc (by
          rw[hB2 j (by omega)]
          exact decide_eq_true (by omega))
        omega
    generalize d.qdn (O.bin .sub .i64 (O.bin .shl .i64 1 (O.conv .u64 V)) 1)=d1 at hs1 hc1 hne1
    generalize d.qdn (O.bin .sub .i64 (O.bin .shl .i64 2 (O.conv .u64 V)) 1)=d2 at hs2 hc2 hno2
    have g1:=qb0 hc1
    have g2:=qb0 hc2
    have a1:=g1.nw;have a2:=g1.nl;have a3:=g1.nc
    have b1:=g2.nw;have b2:=g2.nl;have b3:=g2.nc
    have hsm1:d1.small:=⟨by omega,by omega,by omega⟩
    have hsm2:d2.small:=⟨by omega,by omega,by omega⟩
    have hday1:=qvf d1 (by omega) (by omega) (by omega)
    have hday2:=qvf d2 (by omega) (by omega) (by omega)
    obtain⟨X,Y,Z,p,q,r1,s,t,u,v,w,hb1⟩:=qkh d1 hsm1 hc1 hne1
    have hb2:=qr4 d2 11 (by decide) (qtv d2 hsm2 hc2 hno2)
    have hin:=qrt V 0 (O.bin .sub .i64 d.nc 1)
    have hinB:inB V 0 (O.bin .sub .i64 d.nc 1)=true:=by
      have:O.bin .sub .i64 d.nc 1=(d.nc:Int) - 1:=by subst hO;exact qiz _ _ (by omega) (by omega)
      rw[this]
      simp only [inB,Bool.and_eq_true,decide_eq_true_eq];omega
    rw[hinB] at hin
    have hcv:0≤O.conv .u64 V:=by
      subst hO
      show 0≤wrp .u64 V
      rw[qir (by simp only [IntKind.lo];omega) (by simp only [IntKind.hi];omega)]
      exact hv0
    refine SW.qab tok hO (by cbv <;> rfl) (by trivial) ?_
    refine qac.qas hday (by cbv <;> rfl) ?_
    refine qac.run tok hO (by cbv <;> rfl) (by trivial) ?_
    refine qac.qas hfirst (by cbv <;> rfl) ?_
    refine qac.run tok hO (by cbv <;> rfl) (by trivial) ?_
    refine SW.seq ?_
    refine SW.qab tok hO (by cbv <;> rfl) (by trivial) ?_
    refine SW.qa6 (by cbv <;> rfl) (fun h2=>?_) (fun h2=>SW.skip ?_)
    · exfalso;subst hO;simp[std] at h2
    refine SW.seq ?_
    refine SW.qab tok hO (by cbv <;> rfl) (by trivial) ?_
    refine qac.qas hin (by cbv <;> rfl) ?_
    refine qac.run tok hO (by cbv <;> rfl) (by trivial) ?_
    refine SW.qa6 (by cbv <;> rfl) (fun h3=>?_) (fun h3=>SW.skip ?_)
    · exfalso;subst hO;simp[std] at h3
    refine SW.qab tok hO (by cbv <;> rfl) (by first | exact hcv | exact⟨hcv,trivial⟩) ?_
    refine qac.qas hs1 (by cbv <;> rfl) ?_
    refine qac.run tok hO (by cbv <;> rfl) (by trivial) ?_
    refine qac.qas hday1 (by cbv <;> rfl) ?_
    refine qac.run tok hO (by cbv <;> rfl) (by trivial) ?_
    refine qac.qas hb1 (by cbv <;> rfl) ?_
    refine qac.run tok hO (by cbv <;> rfl) (by trivial) ?_
    refine SW.qab tok hO (by cbv <;> rfl) (by first | exact hcv | exact⟨hcv,trivial⟩) ?_
    refine qac.qas hs2 (by cbv <;> rfl) ?_
    refine qac.run tok hO (by cbv <;> rfl) (by trivial) ?_
    refine qac.qas hday2 (by cbv <;> rfl) ?_
    refine qac.run tok hO (by cbv <;> rfl) (by trivial) ?_
    refine qac.qas hb2 (by cbv <;> rfl) ?_
    refine qac.run tok hO (by cbv <;> rfl) (by trivial) ?_
    refine SW.qab tok hO (by cbv <;> rfl) (by trivial) ?_
    repeat' first
      | (refine qac.qbg (by cbv <;> rfl) (fun h=>?_) (fun h=>?_) <;> refine qac.run tok hO (by cbv <;> rfl) (by trivial) ?_)
      | (refine qac.qas haw (by cbv <;> rfl) ?_;refine qac.run tok hO (by cbv <;> rfl) (by trivial) ?_)
    all_goals first
      | exact SW.ret ⟨_,_,rfl,rfl,Eqv.refl _⟩
      | (exfalso;subst hO;simp_all [std];done)
end Go.Fz
