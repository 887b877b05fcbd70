/- Own work of the verifier of watercress: FzD10, FzH1, FzH2, FzD11, FzH3. -/
import Derived.Test.YtpefamheopplnaaMc36
import Derived.Test.YtpefamheopplnaaMc35
set_option linter.unusedVariables false
set_option linter.unusedSimpArgs false
namespace Go.Fz
open Go.Proofs
set_option maxRecDepth 100000
def Hj (bits:Int)(i:Nat):Bool:=std.cmp .eql (std.bin .rem .i64 (std.bin .shr .i64 bits (std.conv .u64 (Int.ofNat i))) 2) 1
def Co (bits:Int):Nat→List Nat
 | 0=>[]
 | i+1=>if Hj bits i then Co bits i++[i] else Co bits i
theorem Me (bits:Int):∀ i,(Co bits i).length≤i
 | 0=>Nat.le_refl _
 | i+1=>by
  have:=Me bits i
  show(if Hj bits i then Co bits i++[i] else Co bits i).length≤i+1
  split
  ·rw[List.length_append,List.length_singleton];omega
  ·omega
theorem Md (bits:Int)(j:Nat):∀ i,j∈Co bits i↔j<i∧Hj bits j=true
 | 0=>⟨fun h=>(by cases h),fun h=>absurd h.1 (Nat.not_lt_zero _)⟩
 | i+1=>by
  have ih:=Md bits j i
  show j∈(if Hj bits i then Co bits i++[i] else Co bits i)↔_
  by_cases hb:Hj bits i=true
  ·rw[if_pos hb,List.mem_append,ih,List.mem_singleton]
   constructor
   ·rintro(⟨h1,h2⟩|rfl)
    ·exact⟨by omega,h2⟩
    ·exact⟨by omega,hb⟩
   ·rintro⟨h1,h2⟩
    by_cases e:j=i
    ·exact .inr e
    ·exact .inl ⟨by omega,h2⟩
  ·rw[if_neg hb,ih]
   constructor
   ·exact fun⟨h1,h2⟩=>⟨by omega,h2⟩
   ·rintro⟨h1,h2⟩
    by_cases e:j=i
    ·subst e;exact absurd h2 hb
    ·exact⟨by omega,h2⟩
def Ah.Ew (d:Ah)(bits:Int):Ah:={ d with
 nc:=(Co bits d.nc).length
 ck:=fun j=>d.ck ((Co bits d.nc).getD j 0)
 cw:=fun j=>d.cw ((Co bits d.nc).getD j 0)
 clo:=fun j=>d.clo ((Co bits d.nc).getD j 0)
 chi:=fun j=>d.chi ((Co bits d.nc).getD j 0) }
def Qj (d:Ah)(l:List Nat)(j k:Nat):AV:=cntC d (l.getD j 0) k
theorem Od (d:Ah)(l:List Nat)(j k:Nat):Below 0 (Qj d l j k):=Ov _ _ _
theorem gX (d:Ah)(l:List Nat)(i:Nat):flatG 4 (Qj d l) l.length++[iV (d.ck i),iV (d.cw i),iV (d.clo i),iV (d.chi i)]=flatG 4 (Qj d (l++[i])) (l.length+1):=by
 have h1:flatG 4 (Qj d (l++[i])) l.length=flatG 4 (Qj d l) l.length:=Fk fun j k hj=>by
  unfold Qj
  rw[List.getD_eq_getElem?_getD,List.getElem?_append_left hj,←List.getD_eq_getElem?_getD]
 have h2:(l++[i]).getD l.length 0=i:=by simp
 show _=flatG 4 (Qj d (l++[i])) l.length++[cntC d ((l++[i]).getD l.length 0) 0,cntC d ((l++[i]).getD l.length 0) 1,cntC d ((l++[i]).getD l.length 0) 2,cntC d ((l++[i]).getD l.length 0) 3]
 rw[h1,h2];rfl
def kP (d:Ah)(X:AV):Hp:=[(2,.cells none false [iV d.hand,iV d.flat,Dj d,Dx d,X]),(1,.cells none false qH),(0,.cells none false (Ex d))]
set_option maxHeartbeats 16000000 in
theorem eO (d:Ah)(bits:Int)(hn:d.nc≤7):Pure Try.prog 52 [Di d,iV bits] (Di (d.Ew bits)):=by
 obtain⟨O,hO⟩:∃ O:Ar,O=std:=⟨_,rfl⟩
 have hnat:∀ i:Nat,O.nat (Int.ofNat i)=i:=fun i=>by subst hO;rfl
 have hday0:∀ x∈qH,Below 0 x:=Ef
 refine Ae tok 4 Try.func52 uC rfl ⟨Ax d,Below.lit,trivial⟩ (Ax _) ?_
 refine SW.Ab tok hO (by cbv<;>rfl) (by trivial) ?_
 refine SW.Ab tok hO (by cbv<;>rfl) (by trivial) ?_
 refine SW.Ab tok hO (by cbv<;>rfl) (by trivial) ?_
 refine SW.seq ?_
 refine SW.Ab tok hO (by cbv<;>rfl) (by trivial) ?_
 refine(SW.block (SW.Mo (fun i:Nat=>⟨⟨33,getT [(1,iV bits),(2,.ptr 0 0),(4,.ptr 1 0),(5,.ptr 2 0),(6,iV i)]⟩,[]⟩) (fun i=>⟨kP d (slG 3 4 (Co bits i).length)++objG 3 4 (Qj d (Co bits i)) (Co bits i).length,4⟩) (fun i=>d.nc-i) (fun i=>i≤d.nc) 0 (Nat.zero_le _) (Du 3 3) ?_ fun i hi=>?_))
 ·exact Bu.up rfl rfl (by simp) (Nat.le_refl _) (.inl rfl) (by show 3≤4;omega) ⟨Ad.closed Below.lit,Ad.ptr (by omega),Ad.ptr (by omega),Ad.ptr (by omega),Ad.closed Below.lit,trivial⟩
   ⟨⟨by omega,_,rfl,.cells (.cons (Ad.closed Below.lit) (.cons (Ad.closed Below.lit) (.cons (Ad.closed (Be d)) (.cons (Ad.closed (Bh d)) (.cons (Ad.closed Below.lit) .nil))))),.inr rfl⟩,⟨by omega,_,rfl,.cells (Ay.closed hday0),.inr rfl⟩,⟨by omega,_,rfl,.cells (Ay.closed (Bo d)),.inr rfl⟩,trivial⟩ (fun p hp=>by cases hp)
 have hlen:=Me bits i
 have hsn:=gX d (Co bits i) i
 have hsu:Co bits (i+1)=if Hj bits i then Co bits i++[i] else Co bits i:=rfl
 cases hm:(Co bits i).length with
 | zero =>
  have hl0:Co bits i=[]:=List.length_eq_zero_iff.1 hm
  show SW _ _ _ _ _ ⟨kP d nl3++[],4⟩
  refine SW.seq ?_
  refine SW.Ab tok hO (by cbv<;>rfl) (by trivial) ?_
  refine SW.Bd (by cbv<;>rfl) (fun h=>SW.skip ?_) (fun h=>SW.exit ?_)
  ·have hlt:i<d.nc:=by subst hO;simpa[std] using h
   have hi0:(0:Int)≤Int.ofNat i:=Int.natCast_nonneg i
   refine SW.seq (SW.block ?_)
   have hc0:0≤O.conv .u64 (Int.ofNat i):=by
    subst hO
    show 0≤wrp .u64 (Int.ofNat i)
    rw[Jo (by simp only [IntKind.lo];omega) (by simp only [IntKind.hi];have:(i:Int)≤7:=(by omega);show(i:Int)≤_;omega)]
    exact hi0
   refine SW.Ab tok hO (by cbv<;>rfl) (by first|exact⟨hc0,(by decide:(2:Int)≠0)⟩|exact⟨(by decide:(2:Int)≠0),hc0⟩) ?_
   refine SW.Bd (by cbv<;>rfl) (fun h2=>?_) (fun h2=>SW.skip ?_)
   ·have hb:Hj bits i=true:=by subst hO;exact h2
    rw[if_pos hb] at hsu
    rw[hl0] at hsn hsu
    refine SW.runD tok mixed hO (by rfl) (by cbv<;>rfl) ?_ ?_
    ·exact⟨hi0,Int.ofNat_lt.2 hlt⟩
    refine AnyE.Cu tok hO (by cbv<;>rfl) (by cbv<;>rfl) (by trivial) ?_ ?_
    ·exact(by repeat (first|exact trivial|refine And.intro (by first|exact Ba hO (by cbv<;>rfl) (by trivial)|(cbv<;>rfl)) ?_))
    refine AnyE.run tok hO (by rfl) (by cbv<;>rfl) (by trivial) ?_
    refine AnyE.Gr tok (by cbv<;>rfl) (by cbv<;>rfl) (by rfl) (by kernel_rfl) (by rfl) (by rfl) ?_
    refine AnyE.run tok hO (by rfl) (by cbv<;>rfl) (by trivial) ?_
    refine AnyE.eff tok hO (by cbv<;>rfl) (by cbv<;>rfl) (by trivial) ?_
    refine AnyE.done (by rfl) ?_
    refine SW.run tok hO (by cbv<;>rfl) (by trivial) ?_
    refine⟨i+1,by omega,by omega,Du 3 5,?_⟩
    rw[hsu]
    refine Bu.up rfl rfl (by simp) (Nat.le_refl _) (.inr (by omega)) (by show 3≤4;omega) ⟨Ad.closed Below.lit,Ad.ptr (by omega),Ad.ptr (by omega),Ad.ptr (by omega),Ad.inc hO (by omega),trivial⟩
     ⟨⟨by omega,_,rfl,.cells (.cons (Ad.closed Below.lit) (.cons (Ad.closed Below.lit) (.cons (Ad.closed (Be d)) (.cons (Ad.closed (Bh d)) (.cons (Ad.sl (by omega)) .nil))))),.inr rfl⟩,⟨by omega,_,rfl,.cells (Ay.closed hday0),.inr rfl⟩,⟨by omega,_,rfl,.cells (Ay.closed (Bo d)),.inr rfl⟩,trivial⟩ (fun p hp=>?_)
    obtain rfl:=Dm hp
    exact⟨by omega,_,rfl,.cells (Ay.of_eq (by subst hO;exact hsn) (Az (Od d _) _)),.inl rfl⟩
   ·have hb:Hj bits i=false:=by subst hO;exact h2
    rw[if_neg (by rw[hb];decide)] at hsu
    refine SW.run tok hO (by cbv<;>rfl) (by trivial) ?_
    refine⟨i+1,by omega,by omega,Du 3 3,?_⟩
    rw[hsu,hm]
    exact Bu.up rfl rfl (by simp) (Nat.le_refl _) (.inl rfl) (by show 3≤4;omega) ⟨Ad.closed Below.lit,Ad.ptr (by omega),Ad.ptr (by omega),Ad.ptr (by omega),Ad.inc hO (by omega),trivial⟩
     ⟨⟨by omega,_,rfl,.cells (.cons (Ad.closed Below.lit) (.cons (Ad.closed Below.lit) (.cons (Ad.closed (Be d)) (.cons (Ad.closed (Bh d)) (.cons (Ad.closed Below.lit) .nil))))),.inr rfl⟩,⟨by omega,_,rfl,.cells (Ay.closed hday0),.inr rfl⟩,⟨by omega,_,rfl,.cells (Ay.closed (Bo d)),.inr rfl⟩,trivial⟩ (fun p hp=>by cases hp)
  ·have hge:i=d.nc:=by
    have:d.nc≤i:=by subst hO;simpa[std] using h
    omega
   refine SW.Ab tok hO (by cbv<;>rfl) (by trivial) ?_
   refine SW.ret ⟨_,_,rfl,rfl,Eqv.agg (.cons (Eqv.of rfl) (.cons (Eqv.of rfl) (.cons (Eqv.of rfl) (.cons (Eqv.of rfl) (.cons ?_ .nil)))))⟩
   show Eqv nl3 (.isl (Co bits d.nc).length 4 false _)
   rw[←hge,hm]
   exact Eqv.nil
 | succ m =>
  obtain⟨G,hG⟩:∃ G,G=flatG 4 (Qj d (Co bits i)) (m+1):=⟨_,rfl⟩
  show SW _ _ _ _ _ ⟨kP d (.sl 3 0 (m+1) 4 false)++[(3,.cells none false (flatG 4 (Qj d (Co bits i)) (m+1)))],4⟩
  rw[←hG]
  refine SW.seq ?_
  refine SW.Ab tok hO (by cbv<;>rfl) (by trivial) ?_
  refine SW.Bd (by cbv<;>rfl) (fun h=>SW.skip ?_) (fun h=>SW.exit ?_)
  ·have hlt:i<d.nc:=by subst hO;simpa[std] using h
   have hi0:(0:Int)≤Int.ofNat i:=Int.natCast_nonneg i
   refine SW.seq (SW.block ?_)
   have hc0:0≤O.conv .u64 (Int.ofNat i):=by
    subst hO
    show 0≤wrp .u64 (Int.ofNat i)
    rw[Jo (by simp only [IntKind.lo];omega) (by simp only [IntKind.hi];have:(i:Int)≤7:=(by omega);show(i:Int)≤_;omega)]
    exact hi0
   refine SW.Ab tok hO (by cbv<;>rfl) (by first|exact⟨hc0,(by decide:(2:Int)≠0)⟩|exact⟨(by decide:(2:Int)≠0),hc0⟩) ?_
   refine SW.Bd (by cbv<;>rfl) (fun h2=>?_) (fun h2=>SW.skip ?_)
   ·have hb:Hj bits i=true:=by subst hO;exact h2
    rw[if_pos hb] at hsu
    rw[hm,←hG] at hsn
    refine SW.runD tok mixed hO (by rfl) (by cbv<;>rfl) ?_ ?_
    ·exact⟨hi0,Int.ofNat_lt.2 hlt⟩
    refine AnyE.Cu tok hO (by cbv<;>rfl) (by cbv<;>rfl) (by trivial) ?_ ?_
    ·exact(by repeat (first|exact trivial|refine And.intro (by first|exact Ba hO (by cbv<;>rfl) (by trivial)|(cbv<;>rfl)) ?_))
    refine AnyE.run tok hO (by rfl) (by cbv<;>rfl) (by trivial) ?_
    refine AnyE.Gi (g:=Qj d (Co bits i)) (len:=m+1) tok (by cbv<;>rfl) (by cbv<;>rfl) (by rfl) (by rfl) hG (by kernel_rfl) (by rfl) (by rfl) (by omega) fun G' hG'=>?_
    refine AnyE.run tok hO (by rfl) (by cbv<;>rfl) (by trivial) ?_
    refine AnyE.eff tok hO (by cbv<;>rfl) (by cbv<;>rfl) (by trivial) ?_
    refine AnyE.done (by rfl) ?_
    refine SW.run tok hO (by cbv<;>rfl) (by trivial) ?_
    refine⟨i+1,by omega,by omega,Du 3 5,?_⟩
    rw[hsu,List.length_append,List.length_singleton,hm]
    refine Bu.up rfl rfl (by simp) (Nat.le_refl _) (.inr (by omega)) (by show 3≤4;omega) ⟨Ad.closed Below.lit,Ad.ptr (by omega),Ad.ptr (by omega),Ad.ptr (by omega),Ad.inc hO (by omega),trivial⟩
     ⟨⟨by omega,_,rfl,.cells (.cons (Ad.closed Below.lit) (.cons (Ad.closed Below.lit) (.cons (Ad.closed (Be d)) (.cons (Ad.closed (Bh d)) (.cons (Ad.sl (by omega)) .nil))))),.inr rfl⟩,⟨by omega,_,rfl,.cells (Ay.closed hday0),.inr rfl⟩,⟨by omega,_,rfl,.cells (Ay.closed (Bo d)),.inr rfl⟩,trivial⟩ (fun p hp=>?_)
    obtain rfl:=Dm hp
    exact⟨by omega,_,rfl,.cells (Ay.of_eq (by rw[hG',←hG];subst hO;exact hsn) (Az (Od d _) _)),.inl rfl⟩
   ·have hb:Hj bits i=false:=by subst hO;exact h2
    rw[if_neg (by rw[hb];decide)] at hsu
    refine SW.run tok hO (by cbv<;>rfl) (by trivial) ?_
    refine⟨i+1,by omega,by omega,Du 3 3,?_⟩
    rw[hsu,hm]
    refine Bu.up rfl rfl (by simp) (Nat.le_refl _) (.inl rfl) (by show 3≤4;omega) ⟨Ad.closed Below.lit,Ad.ptr (by omega),Ad.ptr (by omega),Ad.ptr (by omega),Ad.inc hO (by omega),trivial⟩
     ⟨⟨by omega,_,rfl,.cells (.cons (Ad.closed Below.lit) (.cons (Ad.closed Below.lit) (.cons (Ad.closed (Be d)) (.cons (Ad.closed (Bh d)) (.cons (Ad.sl (by omega)) .nil))))),.inr rfl⟩,⟨by omega,_,rfl,.cells (Ay.closed hday0),.inr rfl⟩,⟨by omega,_,rfl,.cells (Ay.closed (Bo d)),.inr rfl⟩,trivial⟩ (fun p hp=>?_)
    obtain rfl:=Dm hp
    exact⟨by omega,_,rfl,.cells (Ay.of_eq hG (Az (Od d _) _)),.inl rfl⟩
  ·have hge:i=d.nc:=by
    have:d.nc≤i:=by subst hO;simpa[std] using h
    omega
   refine SW.Ab tok hO (by cbv<;>rfl) (by trivial) ?_
   refine SW.ret ⟨_,_,rfl,rfl,Eqv.agg (.cons (Eqv.of rfl) (.cons (Eqv.of rfl) (.cons (Eqv.of rfl) (.cons (Eqv.of rfl) (.cons ?_ .nil)))))⟩
   show Eqv (frz _ _ 3 (.sl 3 0 (m+1) 4 false)) (.isl (Co bits d.nc).length 4 false (cntC (d.Ew bits)))
   rw[Dq (fm:=none) (G:=G) rfl rfl (by rw[hG,Aq];omega),←hge,hm]
   refine Eqv.isl rfl fun j k hj hk=>Eqv.of ?_
   rw[hG,Eb hj hk (by unfold Qj cntC;split<;>rfl)]
   unfold Qj
   rw[hge]
   match k,hk with
   | 0,_|1,_|2,_|3,_=>rfl
end Go.Fz
namespace Go.Fz
open Go.Proofs
set_option maxRecDepth 100000
def Ug (n:Nat):Int:=std.bin .sub .i64 (std.bin .shl .i64 1 (std.conv .u64 (n:Int))) 1
theorem pX (d:Ah)(hn:d.nc≤7):Pure Try.prog 53 [Di d] (iV (Ug d.nc)):=by
 obtain⟨O,hO⟩:∃ O:Ar,O=std:=⟨_,rfl⟩
 have hc0:0≤O.conv .u64 (Int.ofNat d.nc):=by
  subst hO
  show 0≤wrp .u64 ((d.nc:Nat):Int)
  rw[Jo (by simp only [IntKind.lo];omega) (by simp only [IntKind.hi];omega)]
  omega
 refine Ae tok 3 Try.func53 uB rfl ⟨Ax d,trivial⟩ Below.lit ?_
 refine SW.Ab tok hO (by cbv<;>rfl) (by trivial) ?_
 refine SW.Ab tok hO (by cbv<;>rfl) (by first|exact hc0|exact⟨hc0,trivial⟩) ?_
 refine SW.ret ⟨_,_,rfl,rfl,Eqv.int ?_⟩
 subst hO;rfl
def Yg (fa fb:Nat→Int)(na nb:Nat):Nat→Nat→Bool
 | _,0=>decide ((na:Int)<nb)
 | i,k+1=>if i<na∧i<nb then(if fa i=fb i then Yg fa fb na nb (i+1) k else decide (fa i<fb i)) else decide ((na:Int)<nb)
set_option pp.deepTerms false
set_option pp.deepTerms.threshold 5
set_option maxHeartbeats 8000000 in
theorem bY (na nb:Nat)(ea eb:Bool)(fa fb:Nat→Int)(hna:na<1000)(hnb:nb<1000):Pure Try.prog 92 [Ak na ea fa,Ak nb eb fb] (.sb (Yg fa fb na nb 0 (na+1))):=by
 obtain⟨O,hO⟩:∃ O:Ar,O=std:=⟨_,rfl⟩
 have hnat:∀ i:Nat,O.nat (Int.ofNat i)=i:=fun i=>by subst hO;rfl
 refine Ae tok 3 Try.func92 tJ rfl ⟨Ap _ _ _,Ap _ _ _,trivial⟩ Below.sb ?_
 refine SW.Ab tok hO (by cbv<;>rfl) (by trivial) ?_
 refine SW.seq ?_
 refine SW.Ab tok hO (by cbv<;>rfl) (by trivial) ?_
 refine(SW.block (SW.Gu (fun i:Nat=>⟨⟨41,getT [(0,Ak na ea fa),(1,Ak nb eb fb),(5,iV i)]⟩,[]⟩) (fun _=>⟨[],0⟩) (fun i=>na+1-i) (fun i=>i≤na∧Yg fa fb na nb 0 (na+1)=Yg fa fb na nb i (na+1-i)) 0
  (fun _=>rfl) ⟨Nat.zero_le _,rfl⟩ (Cw.by rfl rfl (by simp) (Nat.le_refl _) (Nat.le_refl _) ⟨⟨rfl,.inl rfl⟩,⟨rfl,.inl rfl⟩,⟨rfl,.inl rfl⟩,trivial⟩ trivial) fun i ⟨hi,hB⟩=>?_))
 have hun:Yg fa fb na nb i (na+1-i)=if i<na∧i<nb then(if fa i=fb i then Yg fa fb na nb (i+1) (na-i) else decide (fa i<fb i)) else decide ((na:Int)<nb):=by
  rw[show na+1-i=(na-i)+1 by omega];rfl
 rw[hun] at hB
 have h0:(0:Int)≤Int.ofNat i:=Int.natCast_nonneg i
 generalize Yg fa fb na nb 0 (na+1)=B at hB ⊢
 refine SW.seq ?_
 refine SW.Ab tok hO (by cbv<;>rfl) (by trivial) ?_
 have hend:¬ (i<na∧i<nb)→B=decide ((na:Int)<nb):=fun h=>by rw[hB,if_neg h]
 refine Ac.Bs (by cbv<;>rfl) (fun h=>?_) (fun h=>?_)
 ·have hlt:i<na:=by subst hO;simpa[std] using h
  refine Ac.run tok hO (by cbv<;>rfl) (by trivial) ?_
  refine SW.Bd (by cbv<;>rfl) (fun h3=>SW.skip ?_) (fun h3=>SW.exit ?_)
  ·have hlt2:i<nb:=by subst hO;simpa[std] using h3
   rw[if_pos ⟨hlt,hlt2⟩] at hB
   refine SW.seq (SW.block ?_)
   refine SW.Bv tok mixed hO (by rfl) (by cbv<;>rfl) ?_ ?_
   ·exact⟨⟨h0,Int.ofNat_lt.2 hlt2⟩,⟨h0,Int.ofNat_lt.2 hlt⟩⟩
   refine AnyE.dec tok hO (by rfl) (by cbv<;>rfl) (by trivial) (fun h4=>?_) (fun h4=>?_)<;>refine AnyE.run tok hO (by rfl) (by cbv<;>rfl) (by trivial) ?_
   ·have hne:fa i≠fb i:=by subst hO;simpa[std] using h4
    rw[if_neg hne] at hB
    refine SW.cond (t:=true) (by cbv<;>rfl) ?_
    refine SW.Bv tok mixed hO (by rfl) (by cbv<;>rfl) ?_ ?_
    ·exact⟨⟨h0,Int.ofNat_lt.2 hlt2⟩,⟨h0,Int.ofNat_lt.2 hlt⟩⟩
    refine AnyE.dec tok hO (by rfl) (by cbv<;>rfl) (by trivial) (fun h5=>?_) (fun h5=>?_)<;>refine AnyE.run tok hO (by rfl) (by cbv<;>rfl) (by trivial) ?_
    ·have h6:fa i<fb i:=by subst hO;simpa[std] using h5
     refine SW.ret ⟨_,_,rfl,rfl,Eqv.bool ?_⟩
     rw[hB,decide_eq_true h6]
    ·have h6:¬ fa i<fb i:=by subst hO;simpa[std] using h5
     refine SW.ret ⟨_,_,rfl,rfl,Eqv.bool ?_⟩
     rw[hB,decide_eq_false h6]
   ·have he:fa i=fb i:=by subst hO;simpa[std] using h4
    rw[if_pos he] at hB
    refine SW.cond (t:=false) (by cbv<;>rfl) (SW.skip ?_)
    refine SW.run tok hO (by cbv<;>rfl) (by trivial) ?_
    exact⟨i+1,by omega,⟨by omega,by rw[hB];congr 1;omega⟩,Cw.by rfl rfl (by simp) (Nat.le_refl _) (Nat.zero_le _) ⟨⟨rfl,.inr (Ap _ _ _)⟩,⟨rfl,.inr (Ap _ _ _)⟩,⟨Dp hO (by omega),.inr Below.lit⟩,trivial⟩ trivial⟩
  ·have hge:¬ i<nb:=by subst hO;simpa[std] using h3
   refine SW.Ab tok hO (by cbv<;>rfl) (by trivial) ?_
   refine SW.ret ⟨_,_,rfl,rfl,Eqv.sb ?_⟩
   rw[hend (fun h=>hge h.2)];subst hO;rfl
 ·have hge:¬ i<na:=by subst hO;simpa[std] using h
  refine Ac.run tok hO (by cbv<;>rfl) (by trivial) ?_
  refine SW.cond (t:=false) (by cbv<;>rfl) (SW.exit ?_)
  refine SW.Ab tok hO (by cbv<;>rfl) (by trivial) ?_
  refine SW.ret ⟨_,_,rfl,rfl,Eqv.sb ?_⟩
  rw[hend (fun h=>hge h.1)];subst hO;rfl
def Sy (na nb:Nat)(fa fb:Nat→Int):Bool:=decide ((na:Int)<nb)||(decide ((na:Int)=nb)&&Yg fa fb na nb 0 (na+1))
theorem cR (na nb:Nat)(ea eb:Bool)(fa fb:Nat→Int)(hna:na<1000)(hnb:nb<1000):Pure Try.prog 50 [Ak na ea fa,Ak nb eb fb] (.sb (Sy na nb fa fb)):=by
 obtain⟨O,hO⟩:∃ O:Ar,O=std:=⟨_,rfl⟩
 have hbef:=bY na nb ea eb fa fb hna hnb
 obtain⟨S,hS⟩:∃ S,Sy na nb fa fb=S:=⟨_,rfl⟩
 unfold Sy at hS
 rw[show Sy na nb fa fb=S from hS]
 generalize Yg fa fb na nb 0 (na+1)=B at hbef hS
 refine Ae tok 3 Try.func50 uE rfl ⟨Ap _ _ _,Ap _ _ _,trivial⟩ Below.sb ?_
 refine SW.Ab tok hO (by cbv<;>rfl) (by trivial) ?_
 refine SW.Ab tok hO (by cbv<;>rfl) (by trivial) ?_
 refine Ac.Bs (by cbv<;>rfl) (fun h=>?_) (fun h=>?_)
 ·have hlt:(na:Int)<nb:=by subst hO;simpa[std] using h
  refine Ac.run tok hO (by cbv<;>rfl) (by trivial) ?_
  refine SW.ret ⟨_,_,rfl,rfl,Eqv.bool ?_⟩
  rw[←hS,decide_eq_true hlt];rfl
 ·have hlt:¬ (na:Int)<nb:=by subst hO;simpa[std] using h
  refine Ac.run tok hO (by cbv<;>rfl) (by trivial) ?_
  refine Ac.Bs (by cbv<;>rfl) (fun h2=>?_) (fun h2=>?_)
  ·have he:(na:Int)=nb:=by subst hO;simpa[std] using h2
   refine Ac.run tok hO (by cbv<;>rfl) (by trivial) ?_
   refine Ac.Al hbef (by cbv<;>rfl) ?_
   refine Ac.run tok hO (by cbv<;>rfl) (by trivial) ?_
   refine SW.ret ⟨_,_,rfl,rfl,Eqv.sb ?_⟩
   rw[←hS,decide_eq_false hlt,decide_eq_true he];rfl
  ·have he:¬ (na:Int)=nb:=by subst hO;simpa[std] using h2
   refine Ac.run tok hO (by cbv<;>rfl) (by trivial) ?_
   refine SW.ret ⟨_,_,rfl,rfl,Eqv.bool ?_⟩
   rw[←hS,decide_eq_false hlt,decide_eq_false he];rfl
end Go.Fz
namespace Go.Fz
open Go.Proofs
set_option maxRecDepth 100000
def lI (l:List Nat)(i:Nat):Int:=((l.getD i 0:Nat):Int)
theorem pU (l:List Nat)(i:Nat):flatG 1 (Bc (lI l)) l.length++[iV (i:Int)]=flatG 1 (Bc (lI (l++[i]))) (l.length+1):=by
 have h1:flatG 1 (Bc (lI (l++[i]))) l.length=flatG 1 (Bc (lI l)) l.length:=Fk fun j k hj=>by
  show iV (lI (l++[i]) j)=iV (lI l j)
  unfold lI
  rw[List.getD_eq_getElem?_getD,List.getElem?_append_left hj,←List.getD_eq_getElem?_getD]
 have h2:lI (l++[i]) l.length=(i:Int):=by unfold lI;simp
 show _=flatG 1 (Bc (lI (l++[i]))) l.length++[iV (lI (l++[i]) l.length)]
 rw[h1,h2]
theorem oA:∀ (n:Fin 32)(i:Fin 6),(std.cmp .gtr (std.bin .shr .i64 (n.1:Int) (std.conv .u64 (i.1:Int))) 0=true→i.1<5)∧(std.cmp .gtr (std.bin .shr .i64 (n.1:Int) (std.conv .u64 (i.1:Int))) 0=false→Co (n.1:Int) i.1=Co (n.1:Int) 5):=by
 decide +kernel
set_option maxHeartbeats 16000000 in
theorem jP (o:Int)(o0:0≤o)(o32:o<32):Pure Try.prog 51 [iV o] (lsV (Co o 5)):=by
 obtain⟨O,hO⟩:∃ O:Ar,O=std:=⟨_,rfl⟩
 have hfin:∀ i:Nat,i≤5→(std.cmp .gtr (std.bin .shr .i64 o (std.conv .u64 (i:Int))) 0=true→i<5)∧(std.cmp .gtr (std.bin .shr .i64 o (std.conv .u64 (i:Int))) 0=false→Co o i=Co o 5):=fun i hi=>by
  have h1:=oA ⟨o.toNat,by omega⟩ ⟨i,by omega⟩
  have h2:((o.toNat:Nat):Int)=o:=by omega
  rw[h2] at h1
  exact h1
 refine Ae tok 3 Try.func51 uD rfl ⟨Below.lit,trivial⟩ (Kn _) ?_
 refine SW.Ab tok hO (by cbv<;>rfl) (by trivial) ?_
 refine SW.Ab tok hO (by cbv<;>rfl) (by trivial) ?_
 refine SW.seq ?_
 refine SW.Ab tok hO (by cbv<;>rfl) (by trivial) ?_
 refine(SW.block (SW.Mo (fun i:Nat=>⟨⟨23,getT [(0,iV o),(3,slG 0 1 (Co o i).length),(4,iV i)]⟩,[]⟩) (fun i=>⟨[]++objG 0 1 (Bc (lI (Co o i))) (Co o i).length,1⟩) (fun i=>5-i) (fun i=>i≤5) 0 (Nat.zero_le _) (Du 0 0) ?_ fun i hi=>?_))
 ·exact Bu.up rfl rfl (by simp) (Nat.le_refl _) (.inl rfl) (by show 0≤1;omega) ⟨Ad.closed Below.lit,Ad.closed Below.lit,Ad.closed Below.lit,trivial⟩ trivial (fun p hp=>by cases hp)
 have hlen:=Me o i
 have hsn:=pU (Co o i) i
 have hsu:Co o (i+1)=if Hj o i then Co o i++[i] else Co o i:=rfl
 obtain⟨f1,f2⟩:=hfin i hi
 have hc0:0≤O.conv .u64 (Int.ofNat i):=by
  subst hO
  show 0≤wrp .u64 ((i:Nat):Int)
  rw[Jo (by simp only [IntKind.lo];omega) (by simp only [IntKind.hi];omega)]
  omega
 cases hm:(Co o i).length with
 | zero =>
  have hl0:Co o i=[]:=List.length_eq_zero_iff.1 hm
  show SW _ _ _ _ ⟨⟨23,getT [(0,iV o),(3,nl3),(4,iV i)]⟩,[]⟩ ⟨[],1⟩
  refine SW.seq ?_
  refine SW.Ab tok hO (by cbv<;>rfl) (by first|exact hc0|exact⟨hc0,trivial⟩) ?_
  refine SW.Bd (by cbv<;>rfl) (fun h=>SW.skip ?_) (fun h=>SW.exit ?_)
  ·have hlt:i<5:=f1 (by subst hO;exact h)
   refine SW.seq (SW.block ?_)
   refine SW.Ab tok hO (by cbv<;>rfl) (by first|exact⟨hc0,(by decide:(2:Int)≠0)⟩|exact⟨(by decide:(2:Int)≠0),hc0⟩) ?_
   refine SW.Bd (by cbv<;>rfl) (fun h2=>?_) (fun h2=>SW.skip ?_)
   ·have hb:Hj o i=true:=by subst hO;exact h2
    rw[if_pos hb] at hsu
    rw[hl0] at hsn hsu
    refine SW.runN tok hO 3 (by cbv<;>rfl) (by trivial) ?_
    refine Ac.Gr tok (by cbv<;>rfl) (by rfl) (by kernel_rfl) (by rfl) (by rfl) ?_
    refine Ac.run tok hO (by cbv<;>rfl) (by trivial) ?_
    refine SW.run tok hO (by cbv<;>rfl) (by trivial) ?_
    refine⟨i+1,by omega,by omega,Du 0 2,?_⟩
    rw[hsu]
    refine Bu.up rfl rfl (by simp) (Nat.le_refl _) (.inr (by omega)) (by show 0≤1;omega) ⟨Ad.closed Below.lit,Ad.sl (by omega),Ad.inc hO (by omega),trivial⟩ trivial (fun p hp=>?_)
    obtain rfl:=Dm hp
    exact⟨by omega,_,rfl,.cells (Ay.of_eq hsn (Az (fun _ _=>Below.lit) _)),.inl rfl⟩
   ·have hb:Hj o i=false:=by subst hO;exact h2
    rw[if_neg (by rw[hb];decide)] at hsu
    refine SW.run tok hO (by cbv<;>rfl) (by trivial) ?_
    refine⟨i+1,by omega,by omega,Du 0 0,?_⟩
    rw[hsu,hm]
    exact Bu.up rfl rfl (by simp) (Nat.le_refl _) (.inl rfl) (by show 0≤1;omega) ⟨Ad.closed Below.lit,Ad.closed Below.lit,Ad.inc hO (by omega),trivial⟩ trivial (fun p hp=>by cases hp)
  ·have he:=f2 (by subst hO;exact h)
   refine SW.Ab tok hO (by cbv<;>rfl) (by trivial) ?_
   refine SW.ret ⟨_,_,rfl,rfl,?_⟩
   rw[←he,hl0]
   exact Eqv.nil
 | succ m =>
  obtain⟨G,hG⟩:∃ G,G=flatG 1 (Bc (lI (Co o i))) (m+1):=⟨_,rfl⟩
  show SW _ _ _ _ ⟨⟨23,getT [(0,iV o),(3,.sl 0 0 (m+1) 1 false),(4,iV i)]⟩,[]⟩ ⟨[(0,.cells none false (flatG 1 (Bc (lI (Co o i))) (m+1)))],1⟩
  rw[←hG]
  refine SW.seq ?_
  refine SW.Ab tok hO (by cbv<;>rfl) (by first|exact hc0|exact⟨hc0,trivial⟩) ?_
  refine SW.Bd (by cbv<;>rfl) (fun h=>SW.skip ?_) (fun h=>SW.exit ?_)
  ·have hlt:i<5:=f1 (by subst hO;exact h)
   refine SW.seq (SW.block ?_)
   refine SW.Ab tok hO (by cbv<;>rfl) (by first|exact⟨hc0,(by decide:(2:Int)≠0)⟩|exact⟨(by decide:(2:Int)≠0),hc0⟩) ?_
   refine SW.Bd (by cbv<;>rfl) (fun h2=>?_) (fun h2=>SW.skip ?_)
   ·have hb:Hj o i=true:=by subst hO;exact h2
    rw[if_pos hb] at hsu
    rw[hm,←hG] at hsn
    refine SW.runN tok hO 3 (by cbv<;>rfl) (by trivial) ?_
    refine Ac.Gi (g:=Bc (lI (Co o i))) (len:=m+1) tok (by cbv<;>rfl) (by rfl) (by rfl) hG (by kernel_rfl) (by rfl) (by rfl) (by omega) fun G' hG'=>?_
    refine Ac.run tok hO (by cbv<;>rfl) (by trivial) ?_
    refine SW.run tok hO (by cbv<;>rfl) (by trivial) ?_
    refine⟨i+1,by omega,by omega,Du 0 2,?_⟩
    rw[hsu,List.length_append,List.length_singleton,hm]
    refine Bu.up rfl rfl (by simp) (Nat.le_refl _) (.inr (by omega)) (by show 0≤1;omega) ⟨Ad.closed Below.lit,Ad.sl (by omega),Ad.inc hO (by omega),trivial⟩ trivial (fun p hp=>?_)
    obtain rfl:=Dm hp
    exact⟨by omega,_,rfl,.cells (Ay.of_eq (by rw[hG',←hG];exact hsn) (Az (fun _ _=>Below.lit) _)),.inl rfl⟩
   ·have hb:Hj o i=false:=by subst hO;exact h2
    rw[if_neg (by rw[hb];decide)] at hsu
    refine SW.run tok hO (by cbv<;>rfl) (by trivial) ?_
    refine⟨i+1,by omega,by omega,Du 0 0,?_⟩
    rw[hsu,hm]
    refine Bu.up rfl rfl (by simp) (Nat.le_refl _) (.inl rfl) (by show 0≤1;omega) ⟨Ad.closed Below.lit,Ad.sl (by omega),Ad.inc hO (by omega),trivial⟩ trivial (fun p hp=>?_)
    obtain rfl:=Dm hp
    exact⟨by omega,_,rfl,.cells (Ay.of_eq hG (Az (fun _ _=>Below.lit) _)),.inl rfl⟩
  ·have he:=f2 (by subst hO;exact h)
   refine SW.Ab tok hO (by cbv<;>rfl) (by trivial) ?_
   refine SW.ret ⟨_,_,rfl,rfl,?_⟩
   rw[←he]
   show Eqv (frz _ _ 3 (.sl 0 0 (m+1) 1 false)) (.isl (Co o i).length 1 false _)
   rw[Dq (fm:=none) (G:=G) rfl rfl (by rw[hG,Aq];omega),hm]
   refine Eqv.isl rfl fun j k hj hk=>Eqv.of ?_
   rw[hG,Eb hj hk rfl]
   rfl
end Go.Fz
namespace Go.Fz
open Go.Proofs
set_option maxRecDepth 100000
theorem pA (d:Ah):d.seen.outs≠[]↔∃ t,d.inR t∧Dc d (Eh (d.nw+d.nl) t)=Li:=by
 constructor
 ·intro h
  cases ho:d.seen.outs with
  | nil=>exact absurd ho h
  | cons f l =>
   obtain⟨t,h1,h2,h3⟩:=(Tb d f).1 (by rw[ho];exact List.mem_cons_self)
   exact⟨t,h1,by rw[h2];exact h3⟩
 ·rintro⟨t,h1,h2⟩ h
  have:=(Tb d _).2 ⟨t,h1,rfl,h2⟩
  rw[h] at this;cases this
def Ah.okC (d:Ah)(f:Nat→Int)(i:Nat):Bool:=d.Jr (d.Bn (Cp d f)) i
theorem jV {d:Ah}(hn:d.nc≤5)(f:Nat→Int):Dc d f=Li↔∀ j,j<d.nc→d.okC f j=true:=by
 have hw:Dc d f=(wrM (d.okC f) d.nc 0,wrM (d.okC f) d.nc 1,wrM (d.okC f) d.nc 2,wrM (d.okC f) d.nc 3,wrM (d.okC f) d.nc 4):=rfl
 rw[hw]
 generalize d.okC f=r
 have hm:∀ j,wrM r d.nc j=false↔(j<d.nc→r j=true):=fun j=>by
  unfold wrM
  cases r j<;>simp
 constructor
 ·intro h j hj
  simp only [Li,Prod.mk.injEq] at h
  obtain⟨h0,h1,h2,h3,h4⟩:=h
  have hj5:j<5:=by omega
  match j,hj5 with
  | 0,_=>exact(hm 0).1 h0 hj
  | 1,_=>exact(hm 1).1 h1 hj
  | 2,_=>exact(hm 2).1 h2 hj
  | 3,_=>exact(hm 3).1 h3 hj
  | 4,_=>exact(hm 4).1 h4 hj
 ·intro h
  simp only [Li,Prod.mk.injEq]
  exact⟨(hm 0).2 (h 0),(hm 1).2 (h 1),(hm 2).2 (h 2),(hm 3).2 (h 3),(hm 4).2 (h 4)⟩
theorem Oc (d:Ah)(bits:Int)(st:Nat→Int)(w:Int):∀ n,stemN (d.Ew bits) st w n=stemN d st w n
 | 0=>rfl
 | n+1=>by
  show(if d.lw n=w then Hq (stemN (d.Ew bits) st w n) (st n) else stemN (d.Ew bits) st w n)=_
  rw[Oc d bits st w n];rfl
theorem cM (d:Ah)(bits:Int)(t:Ks):(d.Ew bits).Bn t=d.Bn t:=by
 have h1:(d.Ew bits).bun t=d.bun t:=funext fun w=>by unfold Ah.bun;rw[Oc]
 have h2:(d.Ew bits).lef t=d.lef t:=funext fun w=>by unfold Ah.lef;rw[Oc]
 have h3:(d.Ew bits).all t=d.all t:=by
  unfold Ah.all;rw[h1];rfl
 unfold Ah.Bn
 rw[h1,h2,h3];rfl
theorem Zq (d:Ah)(bits:Int)(f:Nat→Int)(j:Nat):(d.Ew bits).okC f j=d.okC f ((Co bits d.nc).getD j 0):=by
 unfold Ah.okC
 have:Cp (d.Ew bits) f=Cp d f:=rfl
 rw[this,cM];rfl
theorem Ma {d:Ah}(hc:d.check=0)(bits:Int):(d.Ew bits).check=0:=by
 have hm:=Ow hc
 have hlen:=Me bits d.nc
 unfold Ah.check at hc ⊢
 have hlong:d.Hn=false:=by
  cases h:d.Hn with
  | true=>rw[h] at hc;simp at hc
  | false=>rfl
 have hval:d.Fv=true:=by
  cases h:d.Fv with
  | false=>rw[h,hlong] at hc;simp at hc
  | true=>rfl
 have h1:(d.Ew bits).Hn=false:=by
  simp only [Ah.Hn,Bool.or_eq_false_iff,decide_eq_false_iff_not,Nat.not_lt] at hlong ⊢
  refine⟨hlong.1,?_⟩
  show(Co bits d.nc).length≤5
  omega
 have h2:(d.Ew bits).Fv=true:=by
  simp only [Ah.Fv,Bool.and_eq_true,Dh,decide_eq_true_eq] at hval ⊢
  refine⟨hval.1,fun j hj=>?_⟩
  have hj':j<(Co bits d.nc).length:=hj
  have hin:=(Md bits ((Co bits d.nc).getD j 0) d.nc).1 (by rw[List.getD_eq_getElem?_getD,List.getElem?_eq_getElem hj'];exact List.getElem_mem hj')
  exact hval.2 _ hin.1
 rw[h1,h2]
 have h3:Ho (d.Ew bits).ulo (d.Ew bits).uhi ((d.Ew bits).nw+(d.Ew bits).nl)=Ho d.ulo d.uhi (d.nw+d.nl):=rfl
 rw[h3,hm];rfl
theorem gU {d:Ah}(hc:d.check=0)(bits:Int):(d.Ew bits).seen.outs≠[]↔∃ t,d.inR t∧∀ i,i<d.nc→Hj bits i=true→d.okC (Eh (d.nw+d.nl) t) i=true:=by
 have hn:=(Ds (Ma hc bits)).nc
 rw[pA]
 have h1:∀ t,(d.Ew bits).inR t↔d.inR t:=fun t=>Iff.rfl
 have h2:∀ f,Dc (d.Ew bits) f=Li↔∀ i,i<d.nc→Hj bits i=true→d.okC f i=true:=fun f=>by
  rw[jV hn]
  constructor
  ·intro h i hi hb
   obtain⟨j,hj,e⟩:=List.getElem_of_mem ((Md bits i d.nc).2 ⟨hi,hb⟩)
   have:=h j hj
   rw[Zq,List.getD_eq_getElem?_getD,List.getElem?_eq_getElem hj,Option.getD_some,e] at this
   exact this
  ·intro h j hj
   have hj':j<(Co bits d.nc).length:=hj
   have hin:=(Md bits ((Co bits d.nc).getD j 0) d.nc).1 (by rw[List.getD_eq_getElem?_getD,List.getElem?_eq_getElem hj'];exact List.getElem_mem hj')
   rw[Zq]
   exact h _ hin.1 hin.2
 constructor
 ·rintro⟨t,k1,k2⟩;exact⟨t,k1,(h2 _).1 k2⟩
 ·rintro⟨t,k1,k2⟩;exact⟨t,k1,(h2 _).2 k2⟩
theorem Rn (d:Ah)(hs:d.small)(hc:d.check=0)(hne:d.seen.outs≠[]):∃ (X Y Z:Nat→Nat→AV)(p q r s t u v w:Int),Pure Try.prog 18 [Di d] (.tup [.agg [.isl d.nw 2 false X,.isl d.nw 2 false Y,.isl d.nw 2 false Z,iV p,iV q,iV r,iV s,iV t,iV u,iV v,iV w],iV 0]) :=
 ⟨_,_,_,_,_,_,_,_,_,_,_,eA d hs hc hne⟩
end Go.Fz
namespace Go.Fz
open Go.Proofs
set_option maxRecDepth 100000
def Rs (l:List Nat):Int:=l.foldl (fun(m:Int)(x:Nat)=>std.bin .or .i64 m (std.bin .shl .i64 1 (std.conv .u64 (x:Int)))) 0
theorem oX:∀ many:Fin 6,∀ l∈Im many.1,(∀ j:Fin 5,Hj (std.bin .andNot .i64 (Ug many.1) (Rs l)) j.1=(decide (j.1<many.1)&&decide (j.1∉l)))∧(∀ i:Fin 5,i.1<l.length→l.getD i.1 0<many.1∧(0<i.1→l.getD (i.1-1) 0<l.getD i.1 0)):=by
 decide +kernel
theorem nY:∀ (b:Fin 256)(many:Fin 6),0≤std.bin .and .i64 (std.conv .i64 (b.1:Int)) (Ug many.1)∧std.bin .and .i64 (std.conv .i64 (b.1:Int)) (Ug many.1)<2^many.1:=by
 decide +kernel
theorem pB:∀ (many:Fin 6)(o:Fin 32),o.1<2^many.1→(Co (o.1:Int) 5∈Im many.1)∧(∀ j:Fin 5,Hj (std.bin .andNot .i64 (Ug many.1) (o.1:Int)) j.1=(decide (j.1<many.1)&&!Hj (o.1:Int) j.1)):=by
 decide +kernel
def shL (a b:List Nat):Bool:=Sy a.length b.length (lI a) (lI b)
theorem fD:∀ many:Fin 6,(Im many.1).Pairwise (fun x y=>shL y x=false)∧(∀ l∈Im many.1,shL l l=false)∧List.range many.1∈Im many.1:=by
 decide +kernel
theorem cV {many:Nat}(hm:many≤5){pre post:List (List Nat)}{l a:List Nat}(hE:Im many=pre++l::post)(ha:a∈Im many)(hs:shL a l=true):a∈pre:=by
 obtain⟨h1,h2,_⟩:=fD ⟨many,by omega⟩
 simp only at h1 h2
 have hl:=h2 l (by rw[hE];simp)
 rw[hE] at h1 ha
 rcases List.mem_append.1 ha with ha|ha
 ·exact ha
 ·rcases List.mem_cons.1 ha with rfl|ha
  ·rw[hl] at hs;cases hs
  ·have:=(List.pairwise_append.1 h1).2.1
   have:=(List.pairwise_cons.1 this).1 a ha
   rw[this] at hs;cases hs
theorem fV (l:List Nat)(i:Nat):dN l.length (lI l) (i:Int)=decide (i∈l):=by
 unfold dN
 refine decide_eq_decide.2 ⟨fun⟨k,hk,h⟩=>?_,fun h=>?_⟩
 ·unfold lI at h
  have:l.getD k 0=i:=by omega
  rw[←this,List.getD_eq_getElem?_getD,List.getElem?_eq_getElem hk]
  exact List.getElem_mem hk
 ·obtain⟨k,hk,h⟩:=List.getElem_of_mem h
  exact⟨k,hk,by unfold lI;rw[List.getD_eq_getElem?_getD,List.getElem?_eq_getElem hk,Option.getD_some,h]⟩
theorem Wd {d:Ah}(f:Nat→Int){j:Nat}(hj:j<5):mkB (Dc d f) j=wrM (d.okC f) d.nc j:=by
 match j,hj with
 | 0,_|1,_|2,_|3,_|4,_=>rfl
theorem Oz {d:Ah}(hn:d.nc≤5)(f:Nat→Int)(l:List Nat):Fp (Dc d f) l.length (lI l)=true↔∀ j,j<d.nc→j∉l→d.okC f j=true:=by
 unfold Fp
 simp only [Dh,decide_eq_true_eq,Bool.or_eq_true,Bool.not_eq_true']
 constructor
 ·intro h j hj hl
  have h1:=h j (by omega)
  rw[Wd f (by omega),fV] at h1
  rcases h1 with h1|h1
  ·unfold wrM at h1
   cases hr:d.okC f j with
   | true=>rfl
   | false=>rw[hr] at h1;simp[hj] at h1
  ·exact absurd (of_decide_eq_true h1) hl
 ·intro h j hj
  rw[Wd f hj,fV]
  by_cases hl:j∈l
  ·exact .inr (decide_eq_true hl)
  ·refine .inl ?_
   unfold wrM
   by_cases hjn:j<d.nc
   ·rw[h j hjn hl];simp
   ·simp[hjn]
theorem Ty {d:Ah}(hn:d.nc≤5)(l:List Nat):Ee d.seen.E l=true↔∃ t,d.inR t∧∀ j,j<d.nc→j∉l→d.okC (Eh (d.nw+d.nl) t) j=true:=by
 unfold Ee
 rw[List.any_eq_true]
 constructor
 ·rintro⟨p,hp,h⟩
  obtain⟨t,h1,h2⟩:=(Zb d p.1).1 (List.mem_map.2 ⟨p,hp,rfl⟩)
  rw[←h2] at h
  exact⟨t,h1,(Oz hn _ l).1 h⟩
 ·rintro⟨t,h1,h2⟩
  obtain⟨p,hp,h3⟩:=List.mem_map.1 ((Zb d _).2 ⟨t,h1,rfl⟩)
  exact⟨p,hp,by rw[h3];exact(Oz hn _ l).2 h2⟩
theorem Wf {d:Ah}(hc:d.check=0)(hn:d.nc≤5)(bits:Int)(l:List Nat)(hb:∀ j,j<5→Hj bits j=(decide (j<d.nc)&&decide (j∉l))):(d.Ew bits).seen.outs≠[]↔Ee d.seen.E l=true:=by
 rw[gU hc,Ty hn]
 constructor
 ·rintro⟨t,h1,h2⟩
  exact⟨t,h1,fun j hj hl=>h2 j hj (by rw[hb j (by omega),decide_eq_true hj,decide_eq_true hl];rfl)⟩
 ·rintro⟨t,h1,h2⟩
  refine⟨t,h1,fun j hj hl=>h2 j hj ?_⟩
  rw[hb j (by omega),decide_eq_true hj] at hl
  exact of_decide_eq_true hl
theorem dE {d:Ah}(hc:d.check=0)(hn:d.nc≤5):∃ pre l post,Im d.nc=pre++l::post∧(∀ l'∈pre,Ee d.seen.E l'=false)∧Ee d.seen.E l=true∧leaveV d.seen.E d.nc=lsV l:=by
 have hr:List.range d.nc∈Im d.nc:=(fD ⟨d.nc,by omega⟩).2.2
 have hq:Ee d.seen.E (List.range d.nc)=true:=by
  have g:=Wt (Ds hc)
  refine(Ty hn _).2 ⟨d.ulo,fun m hm=>⟨Int.le_refl _,(g m hm).2.1⟩,fun j hj hl=>absurd (List.mem_range.2 hj) hl⟩
 obtain⟨l,hf⟩:∃ l,(Im d.nc).find? (Ee d.seen.E)=some l:=by
  cases h:(Im d.nc).find? (Ee d.seen.E) with
  | some l=>exact⟨l,rfl⟩
  | none =>
   have:=List.find?_eq_none.1 h _ hr
   rw[hq] at this
   exact absurd rfl this
 obtain⟨hl,pre,post,hE,hpre⟩:=List.find?_eq_some_iff_append.1 hf
 refine⟨pre,l,post,hE,fun l' hl'=>by simpa using hpre l' hl',hl,?_⟩
 unfold leaveV
 rw[hf]
end Go.Fz
