/- Own work of the verifier of watercress: FzB1. -/
import Derived.Test.YtpefamheopplnaaMb25
import Derived.Test.YtpefamheopplnaaMb26
set_option linter.unusedVariables false
set_option linter.unusedSimpArgs false
namespace Go.Fz
open Go.Proofs
set_option maxRecDepth 100000
structure qai where
  hand:Int
  flat:Int
  nw:Nat
  wlo:Nat→Int
  whi:Nat→Int
  nl:Nat
  lw:Nat→Int
  llo:Nat→Int
  lhi:Nat→Int
  nc:Nat
  ck:Nat→Int
  cw:Nat→Int
  clo:Nat→Int
  chi:Nat→Int
def iV (n:Int):AV:=.lit (.int .i64 n)
abbrev nl3:AV:=.lit (.slice none 0 0)
def qc8 (lo hi:Int):AV:=.agg [iV lo,iV hi]
def womC (d:qai)(i k:Nat):AV:=match k with
  | 0=>iV (d.wlo i)
  | _=>iV (d.whi i)
def lotC (d:qai)(i k:Nat):AV:=match k with
  | 0=>iV (d.lw i)
  | 1=>iV (d.llo i)
  | _=>iV (d.lhi i)
def cntC (d:qai)(i k:Nat):AV:=match k with
  | 0=>iV (d.ck i)
  | 1=>iV (d.cw i)
  | 2=>iV (d.clo i)
  | _=>iV (d.chi i)
def qcv (d:qai):AV:=.isl d.nw 2 false (womC d)
def qdg (d:qai):AV:=.isl d.nl 3 false (lotC d)
def qd8 (d:qai):AV:=.isl d.nc 4 false (cntC d)
def qgc (d:qai):List AV:=[iV d.hand,iV d.flat,qcv d,qdg d,qd8 d]
def qdp (d:qai):AV:=.agg (qgc d)
def qb6 (fl:Nat→Int)(i _:Nat):AV:=iV (fl i)
def qap (n:Nat)(ex:Bool)(fl:Nat→Int):AV:=.isl n 1 ex (qb6 fl)
structure qlq where
  nf:Nat
  ef:Bool
  fe:Nat→Int
  ns:Nat
  es:Bool
  st:Nat→Int
def truC (t:qlq):List AV:=[qap t.nf t.ef t.fe,qap t.ns t.es t.st]
def truV (t:qlq):AV:=.agg (truC t)
def womV (d:qai)(i:Nat):AV:=.agg [iV (d.wlo i),iV (d.whi i)]
def lotV (d:qai)(i:Nat):AV:=.agg [iV (d.lw i),iV (d.llo i),iV (d.lhi i)]
def qvx (d:qai)(i:Nat):AV:=.agg [iV (d.ck i),iV (d.cw i),iV (d.clo i),iV (d.chi i)]
theorem qbe {n:Int}:Below 0 (iV n):=Below.lit
theorem qb9 {lo hi:Int}:Below 0 (qc8 lo hi):=Below.agg (qb2.ok ⟨Below.lit,Below.lit,trivial⟩)
theorem qau (d:qai):Below 0 (qcv d):=Below.isl fun i k _ _=>by unfold womC;split <;> exact Below.lit
theorem qa0 (d:qai):Below 0 (qdg d):=Below.isl fun i k _ _=>by unfold lotC;split <;> exact Below.lit
theorem qbl (d:qai):Below 0 (qd8 d):=Below.isl fun i k _ _=>by unfold cntC;split <;> exact Below.lit
theorem qa4 (d:qai):∀ a∈qgc d,Below 0 a:=qb2.ok ⟨Below.lit,Below.lit,qau d,qa0 d,qbl d,trivial⟩
theorem qal (d:qai):Below 0 (qdp d):=Below.agg (qa4 d)
theorem qa3 (n:Nat)(ex:Bool)(fl:Nat→Int):Below 0 (qap n ex fl):=Below.isl fun i k _ _=>Below.lit
theorem qfx (t:qlq):∀ a∈truC t,Below 0 a:=qb2.ok ⟨qa3 _ _ _,qa3 _ _ _,trivial⟩
theorem qkz (t:qlq):Below 0 (truV t):=Below.agg (qfx t)
theorem qlg (d:qai)(i:Nat):Below 0 (qvx d i):=Below.agg (qb2.ok ⟨Below.lit,Below.lit,Below.lit,Below.lit,trivial⟩)
theorem Below.up {n m:Nat}{a:AV}(h:Below 0 a):Below n a:=fun φ u hv=>by
  have h1:=h φ u hv
  exact VR.mono (φ:=⟨φ.f,0,φ.z⟩) (φ':=⟨φ.f,n,φ.z⟩) ⟨Nat.zero_le _,fun id hid=>absurd hid (Nat.not_lt_zero id),fun b c hb=>hb⟩ h1
def qin (a b:Int):Int:=wrp .i64 (a+b)
def qrj (a b:Int):Int:=wrp .i64 (a - b)
def qic (a b:Int):Int:=wrp .i64 (a*b)
def qds (lo hi:Int):Int:=qin (qrj hi lo) 1
theorem add64_eq (a b:Int):std.bin .add .i64 a b=qin a b:=rfl
theorem qwg (a b:Int):std.bin .sub .i64 a b=qrj a b:=rfl
theorem qf7 (a b:Int)(h1 : -9223372036854775808≤a+b)(h2:a+b≤9223372036854775807):qin a b=a+b:=qir (by simpa only [IntKind.lo] using h1) (by simpa only [IntKind.hi] using h2)
theorem qiz (a b:Int)(h1 : -9223372036854775808≤a - b)(h2:a - b≤9223372036854775807):qrj a b=a - b:=qir (by simpa only [IntKind.lo] using h1) (by simpa only [IntKind.hi] using h2)
theorem qp4 (a b:Int)(h1 : -9223372036854775808≤a*b)(h2:a*b≤9223372036854775807):qic a b=a*b:=qir (by simpa only [IntKind.lo] using h1) (by simpa only [IntKind.hi] using h2)
theorem qci {O:Ar}(hO:O=std){i:Nat}(h:i<4611686018427387904):AV.lit (.int .i64 (O.bin .add .i64 (Int.ofNat i) 1))=iV ((i+1:Nat):Int):=by
  have h1:O.bin .add .i64 (Int.ofNat i) 1=qin (Int.ofNat i) 1:=by rw[hO];exact add64_eq _ _
  have h2:qin (Int.ofNat i) 1=Int.ofNat i+1:=qf7 (i:Int) 1 (by omega) (by omega)
  rw[h1,h2];rfl
def qdz (n:Nat)(p:Nat→Bool):Bool:=decide (∀ i,i<n→p i=true)
theorem qlp {n:Nat}{p q:Nat→Bool}(h:∀ i,i<n→p i=q i):qdz n p=qdz n q:=by
  simp only [qdz]
  congr 1
  exact propext ⟨fun hp i hi=>by rw[←h i hi];exact hp i hi,fun hp i hi=>by rw[h i hi];exact hp i hi⟩
def qbq (lo hi a b:Int):Bool:=decide (a≤lo)&&decide (lo≤hi)&&decide (hi≤b)
def inB (n a b:Int):Bool:=decide (a≤n)&&decide (n≤b)
theorem qla (lo hi n:Int):Pure Try.prog 111 [qc8 lo hi,iV n] (.sb (inB n lo hi)):=by
  obtain⟨O,hO⟩:∃ O:Ar,O=std:=⟨_,rfl⟩
  refine qad tok 3 Try.func111 en111 rfl ⟨qb9,qbe,trivial⟩ Below.sb ?_
  refine SW.qab tok hO (by cbv <;> rfl) (by trivial) ?_
  refine SW.qab tok hO (by cbv <;> rfl) (by trivial) ?_
  repeat' (refine qac.qbg (by cbv <;> rfl) (fun h=>?_) (fun h=>?_) <;> refine qac.run tok hO (by cbv <;> rfl) (by trivial) ?_)
  all_goals first
    | refine SW.ret ⟨_,_,rfl,rfl,Eqv.bool (Bool.eq_iff_iff.2 ?_)⟩
    | refine SW.ret ⟨_,_,rfl,rfl,Eqv.sb (Bool.eq_iff_iff.2 ?_)⟩
  all_goals subst hO;simp_all [std,inB]
  all_goals (intros;omega)
theorem qrt (n a b:Int):Pure Try.prog 25 [iV n,iV a,iV b] (.sb (inB n a b)):=by
  obtain⟨O,hO⟩:∃ O:Ar,O=std:=⟨_,rfl⟩
  refine qad tok 3 Try.func25 en25 rfl ⟨qbe,qbe,qbe,trivial⟩ Below.sb ?_
  refine SW.qab tok hO (by cbv <;> rfl) (by trivial) ?_
  refine SW.qab tok hO (by cbv <;> rfl) (by trivial) ?_
  refine qac.qbg (by cbv <;> rfl) (fun h=>?_) (fun h=>?_) <;> refine qac.run tok hO (by cbv <;> rfl) (by trivial) ?_
  · refine SW.ret ⟨_,_,rfl,rfl,Eqv.sb (Bool.eq_iff_iff.2 ?_)⟩
    subst hO;simp[std] at h;simp[std,inB];omega
  · refine SW.ret ⟨_,_,rfl,rfl,Eqv.bool (Bool.eq_iff_iff.2 ?_)⟩
    subst hO;simp[std] at h;simp[inB];omega
theorem qcs (lo hi a b:Int):Pure Try.prog 126 [qc8 lo hi,iV a,iV b] (.sb (qbq lo hi a b)):=by
  obtain⟨O,hO⟩:∃ O:Ar,O=std:=⟨_,rfl⟩
  refine qad tok 3 Try.func126 en126 rfl ⟨qb9,qbe,qbe,trivial⟩ Below.sb ?_
  refine SW.qab tok hO (by cbv <;> rfl) (by trivial) ?_
  refine SW.qab tok hO (by cbv <;> rfl) (by trivial) ?_
  repeat' (refine qac.qbg (by cbv <;> rfl) (fun h=>?_) (fun h=>?_) <;> refine qac.run tok hO (by cbv <;> rfl) (by trivial) ?_)
  all_goals first
    | refine SW.ret ⟨_,_,rfl,rfl,Eqv.bool (Bool.eq_iff_iff.2 ?_)⟩
    | refine SW.ret ⟨_,_,rfl,rfl,Eqv.sb (Bool.eq_iff_iff.2 ?_)⟩
  all_goals subst hO;simp_all [std,qbq]
  all_goals (intros;omega)
theorem qgk (lo hi a b:Int):Pure Try.prog 93 [qc8 lo hi,iV a,iV b] (.sb (qbq lo hi a b)):=by
  obtain⟨O,hO⟩:∃ O:Ar,O=std:=⟨_,rfl⟩
  refine qad tok 3 Try.func93 en93 rfl ⟨qb9,qbe,qbe,trivial⟩ Below.sb ?_
  refine SW.qab tok hO (by cbv <;> rfl) (by trivial) ?_
  refine SW.qab tok hO (by cbv <;> rfl) (by trivial) ?_
  repeat' (refine qac.qbg (by cbv <;> rfl) (fun h=>?_) (fun h=>?_) <;> refine qac.run tok hO (by cbv <;> rfl) (by trivial) ?_)
  all_goals first
    | refine SW.ret ⟨_,_,rfl,rfl,Eqv.bool (Bool.eq_iff_iff.2 ?_)⟩
    | refine SW.ret ⟨_,_,rfl,rfl,Eqv.sb (Bool.eq_iff_iff.2 ?_)⟩
  all_goals subst hO;simp_all [std,qbq]
  all_goals (intros;omega)
theorem size_ok (lo hi:Int):Pure Try.prog 121 [qc8 lo hi] (iV (qds lo hi)):=by
  obtain⟨O,hO⟩:∃ O:Ar,O=std:=⟨_,rfl⟩
  refine qad tok 3 Try.func121 en121 rfl ⟨qb9,trivial⟩ Below.lit ?_
  refine SW.qab tok hO (by cbv <;> rfl) (by trivial) ?_
  refine SW.qab tok hO (by cbv <;> rfl) (by trivial) ?_
  refine SW.ret ⟨_,_,rfl,rfl,Eqv.int ?_⟩
  subst hO;rfl
theorem qna (lo hi:Int):Pure Try.prog 95 [qc8 lo hi] (iV (qds lo hi)):=by
  obtain⟨O,hO⟩:∃ O:Ar,O=std:=⟨_,rfl⟩
  refine qad tok 3 Try.func95 en95 rfl ⟨qb9,trivial⟩ Below.lit ?_
  refine SW.qab tok hO (by cbv <;> rfl) (by trivial) ?_
  refine SW.qab tok hO (by cbv <;> rfl) (by trivial) ?_
  refine SW.ret ⟨_,_,rfl,rfl,Eqv.int ?_⟩
  subst hO;rfl
theorem qrg (lo hi:Int):Pure Try.prog 70 [qc8 lo hi] (qc8 lo hi):=by
  obtain⟨O,hO⟩:∃ O:Ar,O=std:=⟨_,rfl⟩
  refine qad tok 3 Try.func70 en70 rfl ⟨qb9,trivial⟩ qb9 ?_
  refine SW.qab tok hO (by cbv <;> rfl) (by trivial) ?_
  refine SW.qab tok hO (by cbv <;> rfl) (by trivial) ?_
  refine SW.ret ⟨_,_,rfl,rfl,Eqv.of rfl⟩
def qai.qou (d:qai)(n:Int):Bool:=decide (0≤n)&&decide (n<d.nw)
theorem qcx (d:qai)(n:Int):Pure Try.prog 73 [qdp d,iV n] (.sb (d.qou n)):=by
  obtain⟨O,hO⟩:∃ O:Ar,O=std:=⟨_,rfl⟩
  refine qad tok 3 Try.func73 en73 rfl ⟨qal d,qbe,trivial⟩ Below.sb ?_
  refine SW.qab tok hO (by cbv <;> rfl) (by trivial) ?_
  refine SW.qab tok hO (by cbv <;> rfl) (by trivial) ?_
  repeat' (refine qac.qbg (by cbv <;> rfl) (fun h=>?_) (fun h=>?_) <;> refine qac.run tok hO (by cbv <;> rfl) (by trivial) ?_)
  all_goals first
    | refine SW.ret ⟨_,_,rfl,rfl,Eqv.bool (Bool.eq_iff_iff.2 ?_)⟩
    | refine SW.ret ⟨_,_,rfl,rfl,Eqv.sb (Bool.eq_iff_iff.2 ?_)⟩
  all_goals subst hO;cases d;simp_all [std,qai.qou]
  all_goals (intros;omega)
def qai.qix (d:qai):Bool:=decide (4<d.nw)||decide (4<d.nl)||decide (5<d.nc)
theorem qrf (d:qai):Pure Try.prog 85 [qdp d] (.sb d.qix):=by
  obtain⟨O,hO⟩:∃ O:Ar,O=std:=⟨_,rfl⟩
  refine qad tok 3 Try.func85 en85 rfl ⟨qal d,trivial⟩ Below.sb ?_
  refine SW.qab tok hO (by cbv <;> rfl) (by trivial) ?_
  refine SW.qab tok hO (by cbv <;> rfl) (by trivial) ?_
  repeat' (refine qac.qbg (by cbv <;> rfl) (fun h=>?_) (fun h=>?_) <;> refine qac.run tok hO (by cbv <;> rfl) (by trivial) ?_)
  all_goals first
    | refine SW.ret ⟨_,_,rfl,rfl,Eqv.bool (Bool.eq_iff_iff.2 ?_)⟩
    | refine SW.ret ⟨_,_,rfl,rfl,Eqv.sb (Bool.eq_iff_iff.2 ?_)⟩
  all_goals subst hO;cases d;simp_all [std,qai.qix]
  all_goals (intros;omega)
theorem qrq (i:Int)(lo hi:Int):Pure Try.prog 115 [iV i,qc8 lo hi] (.sb (qbq lo hi 1 60)):=by
  obtain⟨O,hO⟩:∃ O:Ar,O=std:=⟨_,rfl⟩
  refine qad tok 3 Try.func115 en115 rfl ⟨qbe,qb9,trivial⟩ Below.sb ?_
  refine SW.qab tok hO (by cbv <;> rfl) (by trivial) ?_
  refine SW.qab tok hO (by cbv <;> rfl) (by trivial) ?_
  refine qac.qdv (qcs lo hi 1 60) (by cbv <;> rfl) fun b hb=>?_
  refine qac.run tok hO (by cbv <;> rfl) (by trivial) ?_
  exact SW.ret ⟨_,_,rfl,rfl,Eqv.sb hb⟩
def qai.qkq (d:qai)(i:Nat):Bool:=d.qou (d.lw i)&&qbq (d.llo i) (d.lhi i) 0 5000
theorem isLot_ok (d:qai)(i:Nat)(j:Int):Pure Try.prog 117 [qdp d,iV j,lotV d i] (.sb (d.qkq i)):=by
  obtain⟨O,hO⟩:∃ O:Ar,O=std:=⟨_,rfl⟩
  refine qad tok 3 Try.func117 en117 rfl ⟨qal d,qbe,Below.agg (qb2.ok ⟨Below.lit,Below.lit,Below.lit,trivial⟩),trivial⟩ Below.sb ?_
  refine SW.qab tok hO (by cbv <;> rfl) (by trivial) ?_
  refine SW.qab tok hO (by cbv <;> rfl) (by trivial) ?_
  refine qac.qdv (qcx d (d.lw i)) (by cbv <;> rfl) fun b hb=>?_
  refine qac.run tok hO (by cbv <;> rfl) (by trivial) ?_
  refine qac.qbg (by cbv <;> rfl) (fun h=>?_) (fun h=>?_) <;> refine qac.run tok hO (by cbv <;> rfl) (by trivial) ?_
  · refine qac.qdv (qcs (d.llo i) (d.lhi i) 0 5000) (by cbv <;> rfl) fun b' hb'=>?_
    refine qac.run tok hO (by cbv <;> rfl) (by trivial) ?_
    refine SW.ret ⟨_,_,rfl,rfl,Eqv.sb ?_⟩
    rw[hb',qai.qkq,←hb,h];rfl
  · refine SW.ret ⟨_,_,rfl,rfl,Eqv.bool ?_⟩
    rw[qai.qkq,←hb,h];rfl
end Go.Fz
