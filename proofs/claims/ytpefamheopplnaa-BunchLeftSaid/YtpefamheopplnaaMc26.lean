/- Own work of the verifier of watercress: FzB1. -/
import Derived.Test.YtpefamheopplnaaMc24
import Derived.Test.YtpefamheopplnaaMc25
set_option linter.unusedVariables false
set_option linter.unusedSimpArgs false
namespace Go.Fz
open Go.Proofs
set_option maxRecDepth 100000
structure Ah where
 hand:Int
 flat:Int
 nw:Nat
 wlo:Nat→Int
 whi:Nat→Int
 nl:Nat
 lw:Nat→Int
 llo:Nat→Int
 lhi:Nat→Int
 nc:Nat
 ck:Nat→Int
 cw:Nat→Int
 clo:Nat→Int
 chi:Nat→Int
def iV (n:Int):AV:=.lit (.int .i64 n)
abbrev nl3:AV:=.lit (.slice none 0 0)
def Fb (lo hi:Int):AV:=.agg [iV lo,iV hi]
def womC (d:Ah)(i k:Nat):AV:=match k with
 | 0=>iV (d.wlo i)
 | _=>iV (d.whi i)
def lotC (d:Ah)(i k:Nat):AV:=match k with
 | 0=>iV (d.lw i)
 | 1=>iV (d.llo i)
 | _=>iV (d.lhi i)
def cntC (d:Ah)(i k:Nat):AV:=match k with
 | 0=>iV (d.ck i)
 | 1=>iV (d.cw i)
 | 2=>iV (d.clo i)
 | _=>iV (d.chi i)
def Dj (d:Ah):AV:=.isl d.nw 2 false (womC d)
def Dx (d:Ah):AV:=.isl d.nl 3 false (lotC d)
def Eo (d:Ah):AV:=.isl d.nc 4 false (cntC d)
def Ex (d:Ah):List AV:=[iV d.hand,iV d.flat,Dj d,Dx d,Eo d]
def Di (d:Ah):AV:=.agg (Ex d)
def Bc (fl:Nat→Int)(i _:Nat):AV:=iV (fl i)
def Ak (n:Nat)(ex:Bool)(fl:Nat→Int):AV:=.isl n 1 ex (Bc fl)
structure Ks where
 nf:Nat
 ef:Bool
 fe:Nat→Int
 ns:Nat
 es:Bool
 st:Nat→Int
def rY (t:Ks):List AV:=[Ak t.nf t.ef t.fe,Ak t.ns t.es t.st]
def kH (t:Ks):AV:=.agg (rY t)
def xR (d:Ah)(i:Nat):AV:=.agg [iV (d.wlo i),iV (d.whi i)]
def wW (d:Ah)(i:Nat):AV:=.agg [iV (d.lw i),iV (d.llo i),iV (d.lhi i)]
def Vk (d:Ah)(i:Nat):AV:=.agg [iV (d.ck i),iV (d.cw i),iV (d.clo i),iV (d.chi i)]
theorem Bq {n:Int}:Below 0 (iV n):=Below.lit
theorem Ea {lo hi:Int}:Below 0 (Fb lo hi):=Below.agg (Br.ok ⟨Below.lit,Below.lit,trivial⟩)
theorem Be (d:Ah):Below 0 (Dj d):=Below.isl fun i k _ _=>by unfold womC;split<;>exact Below.lit
theorem Bh (d:Ah):Below 0 (Dx d):=Below.isl fun i k _ _=>by unfold lotC;split<;>exact Below.lit
theorem Ci (d:Ah):Below 0 (Eo d):=Below.isl fun i k _ _=>by unfold cntC;split<;>exact Below.lit
theorem Bo (d:Ah):∀ a∈Ex d,Below 0 a:=Br.ok ⟨Below.lit,Below.lit,Be d,Bh d,Ci d,trivial⟩
theorem Ax (d:Ah):Below 0 (Di d):=Below.agg (Bo d)
theorem Ap (n:Nat)(ex:Bool)(fl:Nat→Int):Below 0 (Ak n ex fl):=Below.isl fun i k _ _=>Below.lit
theorem Kx (t:Ks):∀ a∈rY t,Below 0 a:=Br.ok ⟨Ap _ _ _,Ap _ _ _,trivial⟩
theorem Sr (t:Ks):Below 0 (kH t):=Below.agg (Kx t)
theorem Uq (d:Ah)(i:Nat):Below 0 (Vk d i):=Below.agg (Br.ok ⟨Below.lit,Below.lit,Below.lit,Below.lit,trivial⟩)
theorem Below.up {n m:Nat}{a:AV}(h:Below 0 a):Below n a:=fun φ u hv=>by
 have h1:=h φ u hv
 exact VR.mono (φ:=⟨φ.f,0,φ.z⟩) (φ':=⟨φ.f,n,φ.z⟩) ⟨Nat.zero_le _,fun id hid=>absurd hid (Nat.not_lt_zero id),fun b c hb=>hb⟩ h1
def Hq (a b:Int):Int:=wrp .i64 (a+b)
def Np (a b:Int):Int:=wrp .i64 (a-b)
def Km (a b:Int):Int:=wrp .i64 (a*b)
def Fw (lo hi:Int):Int:=Hq (Np hi lo) 1
theorem oE (a b:Int):std.bin .add .i64 a b=Hq a b:=rfl
theorem kL (a b:Int):std.bin .sub .i64 a b=Np a b:=rfl
theorem Gs (a b:Int)(h1 : -9223372036854775808≤a+b)(h2:a+b≤9223372036854775807):Hq a b=a+b:=Jo (by simpa only [IntKind.lo] using h1) (by simpa only [IntKind.hi] using h2)
theorem Il (a b:Int)(h1 : -9223372036854775808≤a-b)(h2:a-b≤9223372036854775807):Np a b=a-b:=Jo (by simpa only [IntKind.lo] using h1) (by simpa only [IntKind.hi] using h2)
theorem Zu (a b:Int)(h1 : -9223372036854775808≤a*b)(h2:a*b≤9223372036854775807):Km a b=a*b:=Jo (by simpa only [IntKind.lo] using h1) (by simpa only [IntKind.hi] using h2)
theorem Dp {O:Ar}(hO:O=std){i:Nat}(h:i<4611686018427387904):AV.lit (.int .i64 (O.bin .add .i64 (Int.ofNat i) 1))=iV ((i+1:Nat):Int):=by
 have h1:O.bin .add .i64 (Int.ofNat i) 1=Hq (Int.ofNat i) 1:=by rw[hO];exact oE _ _
 have h2:Hq (Int.ofNat i) 1=Int.ofNat i+1:=Gs (i:Int) 1 (by omega) (by omega)
 rw[h1,h2];rfl
def Dh (n:Nat)(p:Nat→Bool):Bool:=decide (∀ i,i<n→p i=true)
theorem Uz {n:Nat}{p q:Nat→Bool}(h:∀ i,i<n→p i=q i):Dh n p=Dh n q:=by
 simp only [Dh]
 congr 1
 exact propext ⟨fun hp i hi=>by rw[←h i hi];exact hp i hi,fun hp i hi=>by rw[h i hi];exact hp i hi⟩
def Cl (lo hi a b:Int):Bool:=decide (a≤lo)&&decide (lo≤hi)&&decide (hi≤b)
def inB (n a b:Int):Bool:=decide (a≤n)&&decide (n≤b)
theorem Qr (lo hi n:Int):Pure Try.prog 111 [Fb lo hi,iV n] (.sb (inB n lo hi)):=by
 obtain⟨O,hO⟩:∃ O:Ar,O=std:=⟨_,rfl⟩
 refine Ae tok 3 Try.func111 nJ rfl ⟨Ea,Bq,trivial⟩ Below.sb ?_
 refine SW.Ab tok hO (by cbv<;>rfl) (by trivial) ?_
 refine SW.Ab tok hO (by cbv<;>rfl) (by trivial) ?_
 repeat' (refine Ac.Bs (by cbv<;>rfl) (fun h=>?_) (fun h=>?_)<;>refine Ac.run tok hO (by cbv<;>rfl) (by trivial) ?_)
 all_goals first
  | refine SW.ret ⟨_,_,rfl,rfl,Eqv.bool (Bool.eq_iff_iff.2 ?_)⟩
  | refine SW.ret ⟨_,_,rfl,rfl,Eqv.sb (Bool.eq_iff_iff.2 ?_)⟩
 all_goals subst hO;simp_all [std,inB]
 all_goals (intros;omega)
theorem aV (n a b:Int):Pure Try.prog 25 [iV n,iV a,iV b] (.sb (inB n a b)):=by
 obtain⟨O,hO⟩:∃ O:Ar,O=std:=⟨_,rfl⟩
 refine Ae tok 3 Try.func25 uI rfl ⟨Bq,Bq,Bq,trivial⟩ Below.sb ?_
 refine SW.Ab tok hO (by cbv<;>rfl) (by trivial) ?_
 refine SW.Ab tok hO (by cbv<;>rfl) (by trivial) ?_
 refine Ac.Bs (by cbv<;>rfl) (fun h=>?_) (fun h=>?_)<;>refine Ac.run tok hO (by cbv<;>rfl) (by trivial) ?_
 ·refine SW.ret ⟨_,_,rfl,rfl,Eqv.sb (Bool.eq_iff_iff.2 ?_)⟩
  subst hO;simp[std] at h;simp[std,inB];omega
 ·refine SW.ret ⟨_,_,rfl,rfl,Eqv.bool (Bool.eq_iff_iff.2 ?_)⟩
  subst hO;simp[std] at h;simp[inB];omega
theorem Ez (lo hi a b:Int):Pure Try.prog 126 [Fb lo hi,iV a,iV b] (.sb (Cl lo hi a b)):=by
 obtain⟨O,hO⟩:∃ O:Ar,O=std:=⟨_,rfl⟩
 refine Ae tok 3 Try.func126 nA rfl ⟨Ea,Bq,Bq,trivial⟩ Below.sb ?_
 refine SW.Ab tok hO (by cbv<;>rfl) (by trivial) ?_
 refine SW.Ab tok hO (by cbv<;>rfl) (by trivial) ?_
 repeat' (refine Ac.Bs (by cbv<;>rfl) (fun h=>?_) (fun h=>?_)<;>refine Ac.run tok hO (by cbv<;>rfl) (by trivial) ?_)
 all_goals first
  | refine SW.ret ⟨_,_,rfl,rfl,Eqv.bool (Bool.eq_iff_iff.2 ?_)⟩
  | refine SW.ret ⟨_,_,rfl,rfl,Eqv.sb (Bool.eq_iff_iff.2 ?_)⟩
 all_goals subst hO;simp_all [std,Cl]
 all_goals (intros;omega)
theorem Lw (lo hi a b:Int):Pure Try.prog 93 [Fb lo hi,iV a,iV b] (.sb (Cl lo hi a b)):=by
 obtain⟨O,hO⟩:∃ O:Ar,O=std:=⟨_,rfl⟩
 refine Ae tok 3 Try.func93 tI rfl ⟨Ea,Bq,Bq,trivial⟩ Below.sb ?_
 refine SW.Ab tok hO (by cbv<;>rfl) (by trivial) ?_
 refine SW.Ab tok hO (by cbv<;>rfl) (by trivial) ?_
 repeat' (refine Ac.Bs (by cbv<;>rfl) (fun h=>?_) (fun h=>?_)<;>refine Ac.run tok hO (by cbv<;>rfl) (by trivial) ?_)
 all_goals first
  | refine SW.ret ⟨_,_,rfl,rfl,Eqv.bool (Bool.eq_iff_iff.2 ?_)⟩
  | refine SW.ret ⟨_,_,rfl,rfl,Eqv.sb (Bool.eq_iff_iff.2 ?_)⟩
 all_goals subst hO;simp_all [std,Cl]
 all_goals (intros;omega)
theorem oV (lo hi:Int):Pure Try.prog 121 [Fb lo hi] (iV (Fw lo hi)):=by
 obtain⟨O,hO⟩:∃ O:Ar,O=std:=⟨_,rfl⟩
 refine Ae tok 3 Try.func121 nC rfl ⟨Ea,trivial⟩ Below.lit ?_
 refine SW.Ab tok hO (by cbv<;>rfl) (by trivial) ?_
 refine SW.Ab tok hO (by cbv<;>rfl) (by trivial) ?_
 refine SW.ret ⟨_,_,rfl,rfl,Eqv.int ?_⟩
 subst hO;rfl
theorem Vu (lo hi:Int):Pure Try.prog 95 [Fb lo hi] (iV (Fw lo hi)):=by
 obtain⟨O,hO⟩:∃ O:Ar,O=std:=⟨_,rfl⟩
 refine Ae tok 3 Try.func95 tG rfl ⟨Ea,trivial⟩ Below.lit ?_
 refine SW.Ab tok hO (by cbv<;>rfl) (by trivial) ?_
 refine SW.Ab tok hO (by cbv<;>rfl) (by trivial) ?_
 refine SW.ret ⟨_,_,rfl,rfl,Eqv.int ?_⟩
 subst hO;rfl
theorem Vr (lo hi:Int):Pure Try.prog 70 [Fb lo hi] (Fb lo hi):=by
 obtain⟨O,hO⟩:∃ O:Ar,O=std:=⟨_,rfl⟩
 refine Ae tok 3 Try.func70 tT rfl ⟨Ea,trivial⟩ Ea ?_
 refine SW.Ab tok hO (by cbv<;>rfl) (by trivial) ?_
 refine SW.Ab tok hO (by cbv<;>rfl) (by trivial) ?_
 refine SW.ret ⟨_,_,rfl,rfl,Eqv.of rfl⟩
def Ah.Oo (d:Ah)(n:Int):Bool:=decide (0≤n)&&decide (n<d.nw)
theorem Fj (d:Ah)(n:Int):Pure Try.prog 73 [Di d,iV n] (.sb (d.Oo n)):=by
 obtain⟨O,hO⟩:∃ O:Ar,O=std:=⟨_,rfl⟩
 refine Ae tok 3 Try.func73 tS rfl ⟨Ax d,Bq,trivial⟩ Below.sb ?_
 refine SW.Ab tok hO (by cbv<;>rfl) (by trivial) ?_
 refine SW.Ab tok hO (by cbv<;>rfl) (by trivial) ?_
 repeat' (refine Ac.Bs (by cbv<;>rfl) (fun h=>?_) (fun h=>?_)<;>refine Ac.run tok hO (by cbv<;>rfl) (by trivial) ?_)
 all_goals first
  | refine SW.ret ⟨_,_,rfl,rfl,Eqv.bool (Bool.eq_iff_iff.2 ?_)⟩
  | refine SW.ret ⟨_,_,rfl,rfl,Eqv.sb (Bool.eq_iff_iff.2 ?_)⟩
 all_goals subst hO;cases d;simp_all [std,Ah.Oo]
 all_goals (intros;omega)
def Ah.Hn (d:Ah):Bool:=decide (4<d.nw)||decide (4<d.nl)||decide (5<d.nc)
theorem cK (d:Ah):Pure Try.prog 85 [Di d] (.sb d.Hn):=by
 obtain⟨O,hO⟩:∃ O:Ar,O=std:=⟨_,rfl⟩
 refine Ae tok 3 Try.func85 tM rfl ⟨Ax d,trivial⟩ Below.sb ?_
 refine SW.Ab tok hO (by cbv<;>rfl) (by trivial) ?_
 refine SW.Ab tok hO (by cbv<;>rfl) (by trivial) ?_
 repeat' (refine Ac.Bs (by cbv<;>rfl) (fun h=>?_) (fun h=>?_)<;>refine Ac.run tok hO (by cbv<;>rfl) (by trivial) ?_)
 all_goals first
  | refine SW.ret ⟨_,_,rfl,rfl,Eqv.bool (Bool.eq_iff_iff.2 ?_)⟩
  | refine SW.ret ⟨_,_,rfl,rfl,Eqv.sb (Bool.eq_iff_iff.2 ?_)⟩
 all_goals subst hO;cases d;simp_all [std,Ah.Hn]
 all_goals (intros;omega)
theorem dI (i:Int)(lo hi:Int):Pure Try.prog 115 [iV i,Fb lo hi] (.sb (Cl lo hi 1 60)):=by
 obtain⟨O,hO⟩:∃ O:Ar,O=std:=⟨_,rfl⟩
 refine Ae tok 3 Try.func115 nH rfl ⟨Bq,Ea,trivial⟩ Below.sb ?_
 refine SW.Ab tok hO (by cbv<;>rfl) (by trivial) ?_
 refine SW.Ab tok hO (by cbv<;>rfl) (by trivial) ?_
 refine Ac.Ey (Ez lo hi 1 60) (by cbv<;>rfl) fun b hb=>?_
 refine Ac.run tok hO (by cbv<;>rfl) (by trivial) ?_
 exact SW.ret ⟨_,_,rfl,rfl,Eqv.sb hb⟩
def Ah.Nq (d:Ah)(i:Nat):Bool:=d.Oo (d.lw i)&&Cl (d.llo i) (d.lhi i) 0 5000
theorem lX (d:Ah)(i:Nat)(j:Int):Pure Try.prog 117 [Di d,iV j,wW d i] (.sb (d.Nq i)):=by
 obtain⟨O,hO⟩:∃ O:Ar,O=std:=⟨_,rfl⟩
 refine Ae tok 3 Try.func117 nF rfl ⟨Ax d,Bq,Below.agg (Br.ok ⟨Below.lit,Below.lit,Below.lit,trivial⟩),trivial⟩ Below.sb ?_
 refine SW.Ab tok hO (by cbv<;>rfl) (by trivial) ?_
 refine SW.Ab tok hO (by cbv<;>rfl) (by trivial) ?_
 refine Ac.Ey (Fj d (d.lw i)) (by cbv<;>rfl) fun b hb=>?_
 refine Ac.run tok hO (by cbv<;>rfl) (by trivial) ?_
 refine Ac.Bs (by cbv<;>rfl) (fun h=>?_) (fun h=>?_)<;>refine Ac.run tok hO (by cbv<;>rfl) (by trivial) ?_
 ·refine Ac.Ey (Ez (d.llo i) (d.lhi i) 0 5000) (by cbv<;>rfl) fun b' hb'=>?_
  refine Ac.run tok hO (by cbv<;>rfl) (by trivial) ?_
  refine SW.ret ⟨_,_,rfl,rfl,Eqv.sb ?_⟩
  rw[hb',Ah.Nq,←hb,h];rfl
 ·refine SW.ret ⟨_,_,rfl,rfl,Eqv.bool ?_⟩
  rw[Ah.Nq,←hb,h];rfl
end Go.Fz
