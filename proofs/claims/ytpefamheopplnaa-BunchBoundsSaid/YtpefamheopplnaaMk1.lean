/- Own work of the verifier of watercress: FzBo9, FzBo10, FzBo2, FzBo11, FzBo12. -/
import Derived.ChangeKeysEq
import Derived.DeepKeys4
import Derived.Laws.AppendOwn
import Derived.Laws.Cells
import Derived.Laws.CopyRow
import Derived.Laws.Cover3
import Derived.Laws.Entries
import Derived.Laws.NewFold
import Derived.Laws.Sem
import Derived.Laws.Small
import Derived.Laws.StructEq
import Derived.Laws.Tables
import Derived.Laws.World
import Derived.Maps.Keyed
import Derived.Maps.RangeRun
import Derived.OrdersHeld
import Derived.OrdersIn
import Derived.RangeFuncLeaves
import Derived.RangeFuncRecord
import Derived.Shelf.Abstract
import Derived.Test.YtpefamheopplnaaMf0
import Derived.Test.YtpefamheopplnaaMf8
import Derived.Test.YtpefamheopplnaaMf12
import Derived.Test.YtpefamheopplnaaMf13
import Derived.Test.YtpefamheopplnaaMf14
import Derived.Test.YtpefamheopplnaaMf24
import Derived.Test.YtpefamheopplnaaMf22
import Derived.Test.YtpefamheopplnaaMf25
import Derived.Test.YtpefamheopplnaaMf9
import Derived.Test.YtpefamheopplnaaMf23
import Derived.Test.YtpefamheopplnaaMf10
import Derived.Test.YtpefamheopplnaaMf11
import Derived.Test.YtpefamheopplnaaMk0
import Derived.Test.YtpefamheopplnaaMf1
import Derived.Test.YtpefamheopplnaaMf16
import Derived.Test.YtpefamheopplnaaMf18
import Derived.Test.YtpefamheopplnaaMf15
import Derived.Test.YtpefamheopplnaaMf19
import Derived.Test.YtpefamheopplnaaMf20
import Derived.Test.YtpefamheopplnaaMf21
import Derived.Test.YtpefamheopplnaaMf2
import Derived.Test.YtpefamheopplnaaMf3
import Derived.Test.YtpefamheopplnaaMf4
import Derived.Test.YtpefamheopplnaaMf28
import Derived.Test.YtpefamheopplnaaMf6
import Derived.Test.YtpefamheopplnaaMf7
import Derived.Test.YtpefamheopplnaaMf5
import Derived.Test.YtpefamheopplnaaProg
set_option linter.unusedVariables false
set_option linter.unusedSimpArgs false
namespace Go.Fz
open Go.Proofs
set_option maxRecDepth 100000
set_option linter.unusedVariables false
section
variable {P:Program}{T:Ti}
theorem AnyE.ap0 (hT:TOk P T){rd:Option Nat}{ops:Array Oper}{M:List Nat}{K:Fm→St→Prop}{fuel:Nat}{pend pend':List (Nat × AV)}{f:Fm}{st:St}{n m t id sz:Nat}{ex:Bool}{cs:List AV}(j d m':Nat)(hq:Region.ready .any ops (lsB n m) = [j])
    (hd:dropP M j pend = pend')(ha:appAt ops j f = some (t,.lit (.slice none 0 0),.sl id 0 1 sz ex))(hx:st.h.get id = some (.cells none false cs))(hb:sliceB T t sz = true)(hl:cs.length = sz)(hone:cs.all AV.one = true)(hs:(lsB n m).setIfInBounds j true = lsB n m')(hf:putAt ops j f (.sl st.n 0 1 sz false) = f.put (some d) (.sl st.n 0 1 sz false))
    (hk:AllP (fun p => lightV T ops (st.push (.cells none false cs)).h (f.put (some d) (.sl st.n 0 1 sz false)) p.1 = some p.2) pend')
    (h:AnyE P T ops M rd K fuel pend' (lsB n m') (f.put (some d) (.sl st.n 0 1 sz false)) (st.push (.cells none false cs))) : AnyE P T ops M rd K (fuel + 1) pend (lsB n m) f st :=
  AnyE.many [j] hq rfl ⟨PickE.appNil hT hd ha hx hb hl hone (by rw [hf];exact hk) (by rw [hf,hs];exact h),trivial⟩
theorem AnyE.ap1 (hT:TOk P T){rd:Option Nat}{ops:Array Oper}{M:List Nat}{K:Fm→St→Prop}{fuel:Nat}{pend pend':List (Nat × AV)}{f:Fm}{st:St}{n m t id id0 sz:Nat}{ex:Bool}{cs:List AV}{G:List AV}{g:Nat→Nat→AV}{len:Nat}(j d m':Nat)(hq:Region.ready .any ops (lsB n m) = [j])
    (hd:dropP M j pend = pend')(ha:appAt ops j f = some (t,.sl id0 0 len sz false,.sl id 0 1 sz ex))(hx:st.h.get id = some (.cells none false cs))(hy:st.h.get id0 = some (.cells none false G))(hG:G = flatG sz g len)(hb:sliceB T t sz = true)(hl:cs.length = sz)(hone:cs.all AV.one = true)(hlen:len < 1048576)(hs:(lsB n m).setIfInBounds j true = lsB n m')(hf:putAt ops j f (.sl st.n 0 (len + 1) sz false) = f.put (some d) (.sl st.n 0 (len + 1) sz false))
    (h:∀ G',G' = flatG sz g len ++ cs→AllP (fun p => lightV T ops (St.push ⟨truncH id0 (len * sz) id0 st.h,st.n⟩ (.cells (some id0) false G')).h (f.put (some d) (.sl st.n 0 (len + 1) sz false)) p.1 = some p.2) pend' ∧
      AnyE P T ops M rd K fuel pend' (lsB n m') (f.put (some d) (.sl st.n 0 (len + 1) sz false)) (St.push ⟨truncH id0 (len * sz) id0 st.h,st.n⟩ (.cells (some id0) false G'))) : AnyE P T ops M rd K (fuel + 1) pend (lsB n m) f st :=
  AnyE.many [j] hq rfl ⟨PickE.appOne hT hd ha hx hy hG hb hl hone hlen (fun G' e => by rw [hf,hs];exact h G' e),trivial⟩
end
noncomputable def b5P : {a:Array Oper // cB (cL (cR bL1)) = .region 5 a true} := ⟨_,by rfl⟩
noncomputable def b5 : Array Oper := b5P.1
def b5M : List Nat := [0,1,0,4,15,0,32,31,159,511,0,1024,1023,5119,16383,3199,65535,131071,262143,524287,1048575]
theorem b5_tidy : tidyB b5 b5M = true := by kernel_rfl
theorem b5_size : b5.size = 21 := by kernel_rfl
def F345 (j:Nat) : Option Nat := if j = 3 ∨ j = 4 ∨ j = 5 then some j else none
theorem F345_inj : ∀ i j f,F345 i = some f→F345 j = some f→i = j := fun i j f hi hj => by
  unfold F345 at hi hj
  split at hi
  · split at hj
    · cases hi;cases hj;rfl
    · cases hj
  · cases hi
def bndE (A B C:AV)(a b:Int) : List AV := [A,B,C,iV a,iV b,iV a,iV b,iV a,iV b,iV a,iV b]
set_option maxHeartbeats 64000000 in
theorem bo_first (d:DayD)(hpos:0 < d.nw)(hnw:d.nw ≤ 4)(V:AV)(hVb:Below 0 V)(a b:Int)(he:Pure Try.prog 71 [] (rangeV a b))(R:List AV)(hR:∀ v ∈ R,Below 0 v)(g:Nat→AV)(hg:AllP (fun p => g p.1 = p.2) (boL0 V)) :
    SW Try.prog none (cL (cR (cR (bodyF Try.f22)))) (midK 132 (boL0 V) ⟨boS d d.nw false false false a b a b a b a b (flatG 2 (rngC (fun _ => a) (fun _ => b)) d.nw) (flatG 2 (rngC (fun _ => a) (fun _ => b)) d.nw) (flatG 2 (rngC (fun _ => a) (fun _ => b)) d.nw) R,6⟩)
      ⟨⟨132,g⟩,[]⟩ ⟨[(2,.cells none false (bndE nl3 nl3 nl3 a b)),(1,.cells none false R),(0,.cells none false (dayC d))],3⟩ := by
  obtain ⟨O,hO⟩ : ∃ O : Ar,O = std := ⟨_,rfl⟩
  obtain ⟨g1,g2,g4,g5,_⟩ := hg
  simp only at g1 g2 g4 g5
  rw [← updT_self g1,← updT_self g2,← updT_self g4,← updT_self g5]
  refine (show SW Try.prog none (.seq (.region 2 _ false) (.block 0 (.loop (.seq (.seq (.region 3 _ false) (.cond _ .skip (.exit 0))) (.seq (.block 1 (.region 5 b5 true)) (.region 4 _ false)))))) _ _ _ from ?_)
  refine SW.seqRun tok hO (by cbv<;>rfl) (by trivial) ?_
  refine (SW.block (SW.loopR (fun i:Nat => ⟨⟨132,getT [(1,V),(2,.ptr 0 0),(4,.ptr 1 0),(5,.ptr 2 0),(6,iV i)]⟩,[]⟩)
    (fun i => ⟨objG 5 2 (rngC (fun _ => a) (fun _ => b)) i ++ (objG 4 2 (rngC (fun _ => a) (fun _ => b)) i ++ (objG 3 2 (rngC (fun _ => a) (fun _ => b)) i ++ [(2,.cells none false (bndE (slG 3 2 i) (slG 4 2 i) (slG 5 2 i) a b)),(1,.cells none false R),(0,.cells none false (dayC d))])),6⟩) (fun i => d.nw - i) (fun i => i ≤ d.nw) 0 (Nat.zero_le _) (tabR []) ?_ fun i hi => ?_))
  · exact WeakR.tabG (fun _ => none) (fun _ _ _ h => nomatch h) rfl rfl (by simp) (by rfl) (by show 3 ≤ 6; omega) (by rfl) ⟨RenV.closed hVb, RenV.ptr (by omega), RenV.ptr (by omega), RenV.ptr (by omega), RenV.closed Below.lit, trivial⟩
      ⟨⟨by omega, _, rfl, .cells (RenVs.closed (AllB.ok ⟨Below.lit, Below.lit, Below.lit, Below.lit, Below.lit, Below.lit, Below.lit, Below.lit, Below.lit, Below.lit, Below.lit, trivial⟩)), rfl⟩,
        ⟨by omega,_,rfl,.cells (RenVs.closed hR),rfl⟩,⟨by omega,_,rfl,.cells (RenVs.closed (dayC_below d)),rfl⟩,trivial⟩
  cases i with
  | zero =>
    refine SW.seq ?_
    refine SW.seqRun tok hO (by cbv<;>rfl) (by trivial) ?_
    refine SW.condS (by cbv<;>rfl) (fun h => SW.skip ?_) (fun h => ?_)
    · refine SW.seq (SW.block ?_)
      refine SW.drawnB tok (M:=b5M) mixed 21 b5_tidy b5_size (by kernel_rfl) ?_
      refine AnyE.tkO b5_tidy tok hO 0 22 1 (by kernel_rfl) (by kernel_rfl) (by cbv<;>rfl) (by trivial) (Eqv.refl _) ?_
      refine AnyE.tkO b5_tidy tok hO 1 23 3 (by kernel_rfl) (by kernel_rfl) (by cbv<;>rfl) (by trivial) (Eqv.refl _) ?_
      refine AnyE.tkO b5_tidy tok hO 5 27 35 (by kernel_rfl) (by kernel_rfl) (by cbv<;>rfl) (by trivial) (Eqv.refl _) ?_
      refine AnyE.tkO b5_tidy tok hO 6 28 99 (by kernel_rfl) (by kernel_rfl) (by cbv<;>rfl) (by trivial) (Eqv.refl _) ?_
      refine AnyE.tkO b5_tidy tok hO 10 32 1123 (by kernel_rfl) (by kernel_rfl) (by cbv<;>rfl) (by trivial) (Eqv.refl _) ?_
      refine AnyE.tkO b5_tidy tok hO 11 33 3171 (by kernel_rfl) (by kernel_rfl) (by cbv<;>rfl) (by trivial) (Eqv.refl _) ?_
      refine AnyE.cpN he 2 24 3175 (by kernel_rfl) (by kernel_rfl) (by cbv<;>rfl) (by cbv<;>rfl) (by kernel_rfl) rfl ?_
      refine AnyE.efB tok hO 3 3183 (by kernel_rfl) (by cbv<;>rfl) (by cbv<;>rfl) (by trivial) (by kernel_rfl) (by repeat (first | exact trivial | refine And.intro (by cbv<;>rfl) ?_)) ?_
      refine AnyE.ap0 tok (cs:=[iV a,iV b]) 4 26 3199 (by kernel_rfl) (by cbv<;>rfl) (by cbv<;>rfl) (by kernel_rfl) (by kernel_rfl) (by rfl) (by rfl) (by kernel_rfl) rfl (by repeat (first | exact trivial | refine And.intro (by cbv<;>rfl) ?_)) ?_
      refine AnyE.tkO b5_tidy tok hO 15 37 35967 (by kernel_rfl) (by kernel_rfl) (by cbv<;>rfl) (by trivial) (Eqv.refl _) ?_
      refine AnyE.cpN he 7 29 36095 (by kernel_rfl) (by kernel_rfl) (by cbv<;>rfl) (by cbv<;>rfl) (by kernel_rfl) rfl ?_
      refine AnyE.efB tok hO 8 36351 (by kernel_rfl) (by cbv<;>rfl) (by cbv<;>rfl) (by trivial) (by kernel_rfl) (by repeat (first | exact trivial | refine And.intro (by cbv<;>rfl) ?_)) ?_
      refine AnyE.ap0 tok (cs:=[iV a,iV b]) 9 31 36863 (by kernel_rfl) (by cbv<;>rfl) (by cbv<;>rfl) (by kernel_rfl) (by kernel_rfl) (by rfl) (by rfl) (by kernel_rfl) rfl (by repeat (first | exact trivial | refine And.intro (by cbv<;>rfl) ?_)) ?_
      refine AnyE.cpN he 12 34 40959 (by kernel_rfl) (by kernel_rfl) (by cbv<;>rfl) (by cbv<;>rfl) (by kernel_rfl) rfl ?_
      refine AnyE.efB tok hO 13 49151 (by kernel_rfl) (by cbv<;>rfl) (by cbv<;>rfl) (by trivial) (by kernel_rfl) (by repeat (first | exact trivial | refine And.intro (by cbv<;>rfl) ?_)) ?_
      refine AnyE.ap0 tok (cs:=[iV a,iV b]) 14 36 65535 (by kernel_rfl) (by cbv<;>rfl) (by cbv<;>rfl) (by kernel_rfl) (by kernel_rfl) (by rfl) (by rfl) (by kernel_rfl) rfl (by repeat (first | exact trivial | refine And.intro (by cbv<;>rfl) ?_)) ?_
      refine AnyE.efB tok hO 16 131071 (by kernel_rfl) (by cbv<;>rfl) (by cbv<;>rfl) (by trivial) (by kernel_rfl) (by repeat (first | exact trivial | refine And.intro (by cbv<;>rfl) ?_)) ?_
      refine AnyE.tkO b5_tidy tok hO 17 38 262143 (by kernel_rfl) (by kernel_rfl) (by cbv<;>rfl) (by trivial) (Eqv.refl _) ?_
      refine AnyE.efB tok hO 18 524287 (by kernel_rfl) (by cbv<;>rfl) (by cbv<;>rfl) (by trivial) (by kernel_rfl) (by repeat (first | exact trivial | refine And.intro (by cbv<;>rfl) ?_)) ?_
      refine AnyE.tkO b5_tidy tok hO 19 39 1048575 (by kernel_rfl) (by kernel_rfl) (by cbv<;>rfl) (by trivial) (Eqv.refl _) ?_
      refine AnyE.efB tok hO 20 2097151 (by kernel_rfl) (by cbv<;>rfl) (by cbv<;>rfl) (by trivial) (by kernel_rfl) (by repeat (first | exact trivial | refine And.intro (by cbv<;>rfl) ?_)) ?_
      refine AnyE.done (by kernel_rfl) ?_
      refine SW.run tok hO (by cbv<;>rfl) (by trivial) ?_
      refine ⟨1,by omega,by omega,tabR [(3,7),(4,9),(5,11)],?_⟩
      refine WeakR.tabG (fun _ => none) (fun _ _ _ h => nomatch h) rfl rfl (by simp) (by rfl) (by show 3 ≤ 6; omega) (by rfl) ⟨RenV.closed hVb, RenV.ptr (by omega), RenV.ptr (by omega), RenV.ptr (by omega), RenV.inc hO (by omega), trivial⟩
        ⟨⟨by omega, _, rfl, .cells (RenVs.of_eq (by rfl) (flatG_below (rngC_below _ _) 1)), rfl⟩, ⟨by omega, _, rfl, .cells (RenVs.of_eq (by rfl) (flatG_below (rngC_below _ _) 1)), rfl⟩, ⟨by omega, _, rfl, .cells (RenVs.of_eq (by rfl) (flatG_below (rngC_below _ _) 1)), rfl⟩,
          ⟨by omega,_,rfl,.cells (.cons (RenV.sl (by omega)) (.cons (RenV.sl (by omega)) (.cons (RenV.sl (by omega)) (.cons (RenV.closed Below.lit) (.cons (RenV.closed Below.lit) (.cons (RenV.closed Below.lit) (.cons (RenV.closed Below.lit) (.cons (RenV.closed Below.lit) (.cons (RenV.closed Below.lit) (.cons (RenV.closed Below.lit) (.cons (RenV.closed Below.lit) .nil))))))))))),rfl⟩,
          ⟨by omega,_,rfl,.cells (RenVs.closed hR),rfl⟩,⟨by omega,_,rfl,.cells (RenVs.closed (dayC_below d)),rfl⟩,trivial⟩
    · exfalso
      have : d.nw ≤ 0 := by subst hO;simpa [std] using h
      omega
  | succ i =>
    obtain ⟨G,hG⟩ : ∃ G,G = flatG 2 (rngC (fun _ => a) (fun _ => b)) (i + 1) := ⟨_,rfl⟩
    show SW _ _ _ _ _ ⟨[(5,.cells none false (flatG 2 (rngC (fun _ => a) (fun _ => b)) (i + 1))),(4,.cells none false (flatG 2 (rngC (fun _ => a) (fun _ => b)) (i + 1))),(3,.cells none false (flatG 2 (rngC (fun _ => a) (fun _ => b)) (i + 1))),(2,.cells none false (bndE (.sl 3 0 (i + 1) 2 false) (.sl 4 0 (i + 1) 2 false) (.sl 5 0 (i + 1) 2 false) a b)),(1,.cells none false R),(0,.cells none false (dayC d))],6⟩
    rw [← hG]
    refine SW.seq ?_
    refine SW.seqRun tok hO (by cbv<;>rfl) (by trivial) ?_
    refine SW.condS (by cbv<;>rfl) (fun h => SW.skip ?_) (fun h => ?_)
    · have hlt : i + 1 < d.nw := by
        have : ((i + 1 : Nat) : Int) < (d.nw : Int) := by subst hO;simpa [std] using h
        omega
      refine SW.seq (SW.block ?_)
      refine SW.drawnB tok (M:=b5M) mixed 21 b5_tidy b5_size (by kernel_rfl) ?_
      refine AnyE.tkO b5_tidy tok hO 0 22 1 (by kernel_rfl) (by kernel_rfl) (by cbv<;>rfl) (by trivial) (Eqv.refl _) ?_
      refine AnyE.tkO b5_tidy tok hO 1 23 3 (by kernel_rfl) (by kernel_rfl) (by cbv<;>rfl) (by trivial) (Eqv.refl _) ?_
      refine AnyE.tkO b5_tidy tok hO 5 27 35 (by kernel_rfl) (by kernel_rfl) (by cbv<;>rfl) (by trivial) (Eqv.refl _) ?_
      refine AnyE.tkO b5_tidy tok hO 6 28 99 (by kernel_rfl) (by kernel_rfl) (by cbv<;>rfl) (by trivial) (Eqv.refl _) ?_
      refine AnyE.tkO b5_tidy tok hO 10 32 1123 (by kernel_rfl) (by kernel_rfl) (by cbv<;>rfl) (by trivial) (Eqv.refl _) ?_
      refine AnyE.tkO b5_tidy tok hO 11 33 3171 (by kernel_rfl) (by kernel_rfl) (by cbv<;>rfl) (by trivial) (Eqv.refl _) ?_
      refine AnyE.cpN he 2 24 3175 (by kernel_rfl) (by kernel_rfl) (by cbv<;>rfl) (by cbv<;>rfl) (by kernel_rfl) rfl ?_
      refine AnyE.efB tok hO 3 3183 (by kernel_rfl) (by cbv<;>rfl) (by cbv<;>rfl) (by trivial) (by kernel_rfl) (by repeat (first | exact trivial | refine And.intro (by cbv<;>rfl) ?_)) ?_
      refine AnyE.ap1 tok (cs:=[iV a,iV b]) (G:=G) (g:=rngC (fun _ => a) (fun _ => b)) (len:=i + 1) 4 26 3199 (by kernel_rfl) (by cbv<;>rfl) (by cbv<;>rfl) (by kernel_rfl) (by kernel_rfl) hG (by kernel_rfl) (by rfl) (by rfl) (by omega) (by kernel_rfl) rfl fun H0 hH0 => ⟨(by repeat (first | exact trivial | refine And.intro (by cbv<;>rfl) ?_)),?_⟩
      refine AnyE.tkO b5_tidy tok hO 15 37 35967 (by kernel_rfl) (by kernel_rfl) (by cbv<;>rfl) (by trivial) (Eqv.refl _) ?_
      refine AnyE.cpN he 7 29 36095 (by kernel_rfl) (by kernel_rfl) (by cbv<;>rfl) (by cbv<;>rfl) (by kernel_rfl) rfl ?_
      refine AnyE.efB tok hO 8 36351 (by kernel_rfl) (by cbv<;>rfl) (by cbv<;>rfl) (by trivial) (by kernel_rfl) (by repeat (first | exact trivial | refine And.intro (by cbv<;>rfl) ?_)) ?_
      refine AnyE.ap1 tok (cs:=[iV a,iV b]) (G:=G) (g:=rngC (fun _ => a) (fun _ => b)) (len:=i + 1) 9 31 36863 (by kernel_rfl) (by cbv<;>rfl) (by cbv<;>rfl) (by kernel_rfl) (by kernel_rfl) hG (by kernel_rfl) (by rfl) (by rfl) (by omega) (by kernel_rfl) rfl fun H1 hH1 => ⟨(by repeat (first | exact trivial | refine And.intro (by cbv<;>rfl) ?_)),?_⟩
      refine AnyE.cpN he 12 34 40959 (by kernel_rfl) (by kernel_rfl) (by cbv<;>rfl) (by cbv<;>rfl) (by kernel_rfl) rfl ?_
      refine AnyE.efB tok hO 13 49151 (by kernel_rfl) (by cbv<;>rfl) (by cbv<;>rfl) (by trivial) (by kernel_rfl) (by repeat (first | exact trivial | refine And.intro (by cbv<;>rfl) ?_)) ?_
      refine AnyE.ap1 tok (cs:=[iV a,iV b]) (G:=G) (g:=rngC (fun _ => a) (fun _ => b)) (len:=i + 1) 14 36 65535 (by kernel_rfl) (by cbv<;>rfl) (by cbv<;>rfl) (by kernel_rfl) (by kernel_rfl) hG (by kernel_rfl) (by rfl) (by rfl) (by omega) (by kernel_rfl) rfl fun H2 hH2 => ⟨(by repeat (first | exact trivial | refine And.intro (by cbv<;>rfl) ?_)),?_⟩
      refine AnyE.efB tok hO 16 131071 (by kernel_rfl) (by cbv<;>rfl) (by cbv<;>rfl) (by trivial) (by kernel_rfl) (by repeat (first | exact trivial | refine And.intro (by cbv<;>rfl) ?_)) ?_
      refine AnyE.tkO b5_tidy tok hO 17 38 262143 (by kernel_rfl) (by kernel_rfl) (by cbv<;>rfl) (by trivial) (Eqv.refl _) ?_
      refine AnyE.efB tok hO 18 524287 (by kernel_rfl) (by cbv<;>rfl) (by cbv<;>rfl) (by trivial) (by kernel_rfl) (by repeat (first | exact trivial | refine And.intro (by cbv<;>rfl) ?_)) ?_
      refine AnyE.tkO b5_tidy tok hO 19 39 1048575 (by kernel_rfl) (by kernel_rfl) (by cbv<;>rfl) (by trivial) (Eqv.refl _) ?_
      refine AnyE.efB tok hO 20 2097151 (by kernel_rfl) (by cbv<;>rfl) (by cbv<;>rfl) (by trivial) (by kernel_rfl) (by repeat (first | exact trivial | refine And.intro (by cbv<;>rfl) ?_)) ?_
      refine AnyE.done (by kernel_rfl) ?_
      refine SW.run tok hO (by cbv<;>rfl) (by trivial) ?_
      refine ⟨i + 1 + 1,by omega,by omega,tabR [(3,7),(4,9),(5,11)],?_⟩
      refine WeakR.tabG F345 F345_inj rfl rfl (by simp) (by rfl) (by show 3 ≤ 6; omega) (by rfl) ⟨RenV.closed hVb, RenV.ptr (by omega), RenV.ptr (by omega), RenV.ptr (by omega), RenV.inc hO (by omega), trivial⟩
        ⟨⟨by omega, _, rfl, .cells (RenVs.of_eq (by rw [hH2]; rfl) (flatG_below (rngC_below _ _) (i + 1 + 1))), rfl⟩, ⟨by omega, _, rfl, .cells (RenVs.of_eq (by rw [hH1]; rfl) (flatG_below (rngC_below _ _) (i + 1 + 1))), rfl⟩, ⟨by omega, _, rfl, .cells (RenVs.of_eq (by rw [hH0]; rfl) (flatG_below (rngC_below _ _) (i + 1 + 1))), rfl⟩,
          ⟨by omega,_,rfl,.cells (.cons (RenV.sl (by omega)) (.cons (RenV.sl (by omega)) (.cons (RenV.sl (by omega)) (.cons (RenV.closed Below.lit) (.cons (RenV.closed Below.lit) (.cons (RenV.closed Below.lit) (.cons (RenV.closed Below.lit) (.cons (RenV.closed Below.lit) (.cons (RenV.closed Below.lit) (.cons (RenV.closed Below.lit) (.cons (RenV.closed Below.lit) .nil))))))))))),rfl⟩,
          ⟨by omega,_,rfl,.cells (RenVs.closed hR),rfl⟩,⟨by omega,_,rfl,.cells (RenVs.closed (dayC_below d)),rfl⟩,trivial⟩
    · have hge : i + 1 = d.nw := by
        have : (d.nw : Int) ≤ ((i + 1 : Nat) : Int) := by subst hO;simpa [std] using h
        omega
      refine SW.exit ?_
      refine (show midK 132 _ _ .normal _ _ from midK.mk rfl rfl ⟨rfl,rfl,rfl,rfl,trivial⟩ ?_)
      rw [hG,← hge];rfl
end Go.Fz
namespace Go.Fz
open Go.Proofs
set_option maxRecDepth 100000
set_option linter.unusedVariables false
theorem bnd0_below : ∀ v ∈ bnd0,Below 0 v := AllB.ok ⟨Below.lit,Below.lit,Below.lit,Below.lit,Below.lit,Below.lit,Below.lit,Below.lit,Below.lit,Below.lit,Below.lit,trivial⟩
def bofV (d:DayD)(M:Nat)(a b:Int)(F bu le:Nat→Nat→Int)(HH LL FF SS:Nat→Int) : AV :=
  .agg (bndC d.nw (fun j => mnK (fun t => F t j) a M) (fun j => mxK (fun t => F t j) b M) (fun j => mnK (fun t => bu t j) a M) (fun j => mxK (fun t => bu t j) b M) (fun j => mnK (fun t => le t j) a M) (fun j => mxK (fun t => le t j) b M)
    (mnK HH a M) (mxK HH b M) (mnK LL a M) (mxK LL b M) (mnK FF a M) (mxK FF b M) (mnK SS a M) (mxK SS b M))
theorem bndC_below (n:Nat)(lo0 hi0 lo1 hi1 lo2 hi2:Nat→Int)(p q r s t u v w:Int) : Below 0 (.agg (bndC n lo0 hi0 lo1 hi1 lo2 hi2 p q r s t u v w)) :=
  Below.agg (AllB.ok ⟨Below.isl fun i k _ _ => rngC_below _ _ i k,Below.isl fun i k _ _ => rngC_below _ _ i k,Below.isl fun i k _ _ => rngC_below _ _ i k,Below.lit,Below.lit,Below.lit,Below.lit,Below.lit,Below.lit,Below.lit,Below.lit,trivial⟩)
set_option maxHeartbeats 16000000 in
theorem refBounds_ok (d:DayD)(hpos:0 < d.nw)(hnw:d.nw ≤ 4)(nl M:Nat)(hM:M < 100000)(F S:Nat→Nat→Int)(bu le:Nat→Nat→Int)(HH LL FF SS:Nat→Int)
    (hpl:∀ k,k < M→Pure Try.prog 47 [dayV d,.agg [intsV d.nw false (F k),intsV nl false (S k)]] (.agg [intsV d.nw false (bu k),intsV d.nw false (le k),iV (HH k),iV (LL k),iV (FF k),iV (SS k)])) :
    Pure Try.prog 22 [dayV d,trsV M d.nw nl F S] (bofV d M 1099511627776 (-1099511627776) F bu le HH LL FF SS) := by
  obtain ⟨O,hO⟩ : ∃ O : Ar,O = std := ⟨_,rfl⟩
  have he := empty71_ok
  generalize (-1099511627776 : Int) = b at he ⊢
  generalize (1099511627776 : Int) = a at he ⊢
  refine pure_of_body tok 4 Try.func22 en22 rfl ⟨dayV_below d,trsV_below _ _ _ _ _,trivial⟩ (bndC_below _ _ _ _ _ _ _ _ _ _ _ _ _ _ _) ?_
  refine SW.seqRun tok hO (by cbv<;>rfl) (by trivial) ?_
  refine SW.seqRun tok hO (by cbv<;>rfl) (by trivial) ?_
  refine OpsW.callP he (by cbv<;>rfl) ?_
  refine OpsW.run tok hO (by cbv<;>rfl) (by trivial) ?_
  refine OpsW.callP he (by cbv<;>rfl) ?_
  refine OpsW.run tok hO (by cbv<;>rfl) (by trivial) ?_
  refine OpsW.callP he (by cbv<;>rfl) ?_
  refine OpsW.run tok hO (by cbv<;>rfl) (by trivial) ?_
  refine OpsW.callP he (by cbv<;>rfl) ?_
  refine OpsW.run tok hO (by cbv<;>rfl) (by trivial) ?_
  refine SW.seq ((bo_first d hpos hnw (trsV M d.nw nl F S) (trsV_below _ _ _ _ _) a b he bnd0 bnd0_below _ ⟨rfl,rfl,rfl,rfl,trivial⟩).mono fun e f st hm => ?_)
  obtain ⟨rfl,g,rfl,hg,rfl⟩ := hm
  refine SW.seq ((bo_out d (by omega) nl M hM F S false false false a b bnd0 bnd0_below bu le HH LL FF SS hpl g hg).mono fun e f st hm => ?_)
  obtain ⟨rfl,g',rfl,hg',rfl⟩ := hm
  rw [boK_eq]
  unfold bofV
  generalize mnK HH a M = p0
  generalize mxK HH b M = p1
  generalize mnK LL a M = p2
  generalize mxK LL b M = p3
  generalize mnK FF a M = p4
  generalize mxK FF b M = p5
  generalize mnK SS a M = p6
  generalize mxK SS b M = p7
  unfold rgK
  generalize (fun j => mnK (fun t => F t j) a M) = l0
  generalize (fun j => mxK (fun t => F t j) b M) = h0
  generalize (fun j => mnK (fun t => bu t j) a M) = l1
  generalize (fun j => mxK (fun t => bu t j) b M) = h1
  generalize (fun j => mnK (fun t => le t j) a M) = l2
  generalize (fun j => mxK (fun t => le t j) b M) = h2
  obtain ⟨G0,hG0⟩ : ∃ G,G = flatG 2 (rngC l0 h0) d.nw := ⟨_,rfl⟩
  obtain ⟨G1,hG1⟩ : ∃ G,G = flatG 2 (rngC l1 h1) d.nw := ⟨_,rfl⟩
  obtain ⟨G2,hG2⟩ : ∃ G,G = flatG 2 (rngC l2 h2) d.nw := ⟨_,rfl⟩
  rw [← hG0,← hG1,← hG2]
  obtain ⟨g1,g2,g4,g5,_⟩ := hg'
  simp only at g1 g2 g4 g5
  rw [← updT_self g1,← updT_self g2,← updT_self g4,← updT_self g5]
  refine SW.seqRun tok hO (by cbv<;>rfl) (by trivial) ?_
  refine SW.ret ⟨_,_,rfl,rfl,?_⟩
  refine Eqv.agg ?_
  refine .cons ?_ (.cons ?_ (.cons ?_ (.cons (Eqv.of rfl) (.cons (Eqv.of rfl) (.cons (Eqv.of rfl) (.cons (Eqv.of rfl) (.cons (Eqv.of rfl) (.cons (Eqv.of rfl) (.cons (Eqv.of rfl) (.cons (Eqv.of rfl) .nil))))))))))
  · show Eqv (frz _ _ 3 (.sl 3 0 d.nw 2 false)) _
    rw [frz_slE (fm:=none) (G:=G0) rfl rfl (by rw [hG0,flatG_length];omega)]
    exact Eqv.isl rfl fun j k hj hk => Eqv.of (by rw [hG0];exact frz_flat hj hk (by unfold rngC;split<;>rfl))
  · show Eqv (frz _ _ 3 (.sl 4 0 d.nw 2 false)) _
    rw [frz_slE (fm:=none) (G:=G1) rfl rfl (by rw [hG1,flatG_length];omega)]
    exact Eqv.isl rfl fun j k hj hk => Eqv.of (by rw [hG1];exact frz_flat hj hk (by unfold rngC;split<;>rfl))
  · show Eqv (frz _ _ 3 (.sl 5 0 d.nw 2 false)) _
    rw [frz_slE (fm:=none) (G:=G2) rfl rfl (by rw [hG2,flatG_length];omega)]
    exact Eqv.isl rfl fun j k hj hk => Eqv.of (by rw [hG2];exact frz_flat hj hk (by unfold rngC;split<;>rfl))
end Go.Fz
namespace Go.Fz
open Go.Proofs
set_option maxRecDepth 100000
set_option linter.unusedVariables false
noncomputable def bo1P : {a:Array Oper // nthC 1 (bodyF Try.f21) = .region 1 a true} := ⟨_,by rfl⟩
noncomputable def bo1 : Array Oper := bo1P.1
def boM : List Nat := [0,1,0,4,15,31,63,127,63,319,1023,2047,4095,8191,16383,8191,40959,131071,262143,524287,1048575,2097151,1048575,5242879,13631487,33554431,67108863,134217727,268435455,536870911,268435455,1342177279,3489660927,8589934591,17179869183,34359738367,68719476735,137438953471,68719476735,343597383679,893353197567,2199023255551,4398046511103,8796093022207,17592186044415,35184372088831,17592186044415,87960930222079,228698418577407,562949953421311,1125899906842623,2251799813685247]
theorem bo_tidy : tidyB bo1 boM = true := by kernel_rfl
theorem bo_size : bo1.size = 52 := by kernel_rfl
set_option maxHeartbeats 64000000 in
theorem bound21_z (p q r s t u v w:Int) :
    Pure Try.prog 21 [.agg [nl3,nl3,nl3,iV p,iV q,iV r,iV s,iV t,iV u,iV v,iV w],.agg [nl3,nl3,nl3,iV p,iV q,iV r,iV s,iV t,iV u,iV v,iV w]] (.lit (.bool true)) := by
  obtain ⟨O,hO⟩ : ∃ O : Ar,O = std := ⟨_,rfl⟩
  have t1 := to70_ok p q
  have t2 := to70_ok r s
  have t3 := to70_ok t u
  have t4 := to70_ok v w
  have bl : Below 0 nl3 := Below.lit
  have e1 := ranges36_nil
  have e2 := ranges36_nil
  have e3 := ranges36_nil
  refine pure_of_body tok 3 Try.func21 en21 rfl ⟨Below.agg (AllB.ok ⟨bl,bl,bl,Below.lit,Below.lit,Below.lit,Below.lit,Below.lit,Below.lit,Below.lit,Below.lit,trivial⟩),Below.agg (AllB.ok ⟨bl,bl,bl,Below.lit,Below.lit,Below.lit,Below.lit,Below.lit,Below.lit,Below.lit,Below.lit,trivial⟩),trivial⟩ Below.lit ?_
  refine SW.seqRun tok hO (by cbv<;>rfl) (by trivial) ?_
  refine SW.seq (show SW Try.prog none (.region 1 bo1 true) _ _ _ from ?_)
  refine SW.drawnB tok (M:=boM) mixed 52 bo_tidy bo_size (by kernel_rfl) ?_
  refine AnyE.tkO bo_tidy tok hO 0 5 1 (by kernel_rfl) (by kernel_rfl) (by cbv<;>rfl) (by trivial) (Eqv.refl _) ?_
  refine AnyE.tkO bo_tidy tok hO 1 6 3 (by kernel_rfl) (by kernel_rfl) (by cbv<;>rfl) (by trivial) (Eqv.refl _) ?_
  refine AnyE.tkO bo_tidy tok hO 2 7 7 (by kernel_rfl) (by kernel_rfl) (by cbv<;>rfl) (by trivial) (Eqv.refl _) ?_
  refine AnyE.tkO bo_tidy tok hO 3 8 15 (by kernel_rfl) (by kernel_rfl) (by cbv<;>rfl) (by trivial) (Eqv.refl _) ?_
  refine AnyE.cp e1 4 9 31 (by kernel_rfl) (by cbv<;>rfl) (by cbv<;>rfl) (by kernel_rfl) rfl (by repeat (first | exact trivial | refine And.intro (by cbv<;>rfl) ?_)) ?_
  refine AnyE.tkO bo_tidy tok hO 5 10 63 (by kernel_rfl) (by kernel_rfl) (by cbv<;>rfl) (by trivial) (Eqv.refl _) ?_
  refine AnyE.tkO bo_tidy tok hO 6 11 127 (by kernel_rfl) (by kernel_rfl) (by cbv<;>rfl) (by trivial) (Eqv.refl _) ?_
  refine AnyE.tkO bo_tidy tok hO 7 12 255 (by kernel_rfl) (by kernel_rfl) (by cbv<;>rfl) (by trivial) (Eqv.refl _) ?_
  refine AnyE.tkO bo_tidy tok hO 8 13 511 (by kernel_rfl) (by kernel_rfl) (by cbv<;>rfl) (by trivial) (Eqv.refl _) ?_
  refine AnyE.tkO bo_tidy tok hO 9 14 1023 (by kernel_rfl) (by kernel_rfl) (by cbv<;>rfl) (by trivial) (Eqv.refl _) ?_
  refine AnyE.cp e2 10 15 2047 (by kernel_rfl) (by cbv<;>rfl) (by cbv<;>rfl) (by kernel_rfl) rfl (by repeat (first | exact trivial | refine And.intro (by cbv<;>rfl) ?_)) ?_
  refine AnyE.tkO bo_tidy tok hO 11 16 4095 (by kernel_rfl) (by kernel_rfl) (by cbv<;>rfl) (by trivial) (Eqv.refl _) ?_
  refine AnyE.tkO bo_tidy tok hO 12 17 8191 (by kernel_rfl) (by kernel_rfl) (by cbv<;>rfl) (by trivial) (Eqv.refl _) ?_
  refine AnyE.tkO bo_tidy tok hO 13 18 16383 (by kernel_rfl) (by kernel_rfl) (by cbv<;>rfl) (by trivial) (Eqv.refl _) ?_
  refine AnyE.tkO bo_tidy tok hO 14 19 32767 (by kernel_rfl) (by kernel_rfl) (by cbv<;>rfl) (by trivial) (Eqv.refl _) ?_
  refine AnyE.tkO bo_tidy tok hO 15 20 65535 (by kernel_rfl) (by kernel_rfl) (by cbv<;>rfl) (by trivial) (Eqv.refl _) ?_
  refine AnyE.tkO bo_tidy tok hO 16 21 131071 (by kernel_rfl) (by kernel_rfl) (by cbv<;>rfl) (by trivial) (Eqv.refl _) ?_
  refine AnyE.cp e3 17 22 262143 (by kernel_rfl) (by cbv<;>rfl) (by cbv<;>rfl) (by kernel_rfl) rfl (by repeat (first | exact trivial | refine And.intro (by cbv<;>rfl) ?_)) ?_
  refine AnyE.tkO bo_tidy tok hO 18 23 524287 (by kernel_rfl) (by kernel_rfl) (by cbv<;>rfl) (by trivial) (Eqv.refl _) ?_
  refine AnyE.tkO bo_tidy tok hO 19 24 1048575 (by kernel_rfl) (by kernel_rfl) (by cbv<;>rfl) (by trivial) (Eqv.refl _) ?_
  refine AnyE.tkO bo_tidy tok hO 20 25 2097151 (by kernel_rfl) (by kernel_rfl) (by cbv<;>rfl) (by trivial) (Eqv.refl _) ?_
  refine AnyE.tkO bo_tidy tok hO 21 26 4194303 (by kernel_rfl) (by kernel_rfl) (by cbv<;>rfl) (by trivial) (Eqv.refl _) ?_
  refine AnyE.tkO bo_tidy tok hO 22 27 8388607 (by kernel_rfl) (by kernel_rfl) (by cbv<;>rfl) (by trivial) (Eqv.refl _) ?_
  refine AnyE.tkO bo_tidy tok hO 23 28 16777215 (by kernel_rfl) (by kernel_rfl) (by cbv<;>rfl) (by trivial) (Eqv.refl _) ?_
  refine AnyE.cp t1 24 29 33554431 (by kernel_rfl) (by cbv<;>rfl) (by cbv<;>rfl) (by kernel_rfl) rfl (by repeat (first | exact trivial | refine And.intro (by cbv<;>rfl) ?_)) ?_
  refine AnyE.tkO bo_tidy tok hO 25 30 67108863 (r:=.lit (.bool true)) (by kernel_rfl) (by kernel_rfl) (by cbv<;>rfl) (by trivial) (Eqv.lit (by subst hO;simp [std])) ?_
  refine AnyE.tkO bo_tidy tok hO 26 31 134217727 (by kernel_rfl) (by kernel_rfl) (by cbv<;>rfl) (by trivial) (Eqv.refl _) ?_
  refine AnyE.tkO bo_tidy tok hO 27 32 268435455 (by kernel_rfl) (by kernel_rfl) (by cbv<;>rfl) (by trivial) (Eqv.refl _) ?_
  refine AnyE.tkO bo_tidy tok hO 28 33 536870911 (by kernel_rfl) (by kernel_rfl) (by cbv<;>rfl) (by trivial) (Eqv.refl _) ?_
  refine AnyE.tkO bo_tidy tok hO 29 34 1073741823 (by kernel_rfl) (by kernel_rfl) (by cbv<;>rfl) (by trivial) (Eqv.refl _) ?_
  refine AnyE.tkO bo_tidy tok hO 30 35 2147483647 (by kernel_rfl) (by kernel_rfl) (by cbv<;>rfl) (by trivial) (Eqv.refl _) ?_
  refine AnyE.tkO bo_tidy tok hO 31 36 4294967295 (by kernel_rfl) (by kernel_rfl) (by cbv<;>rfl) (by trivial) (Eqv.refl _) ?_
  refine AnyE.cp t2 32 37 8589934591 (by kernel_rfl) (by cbv<;>rfl) (by cbv<;>rfl) (by kernel_rfl) rfl (by repeat (first | exact trivial | refine And.intro (by cbv<;>rfl) ?_)) ?_
  refine AnyE.tkO bo_tidy tok hO 33 38 17179869183 (r:=.lit (.bool true)) (by kernel_rfl) (by kernel_rfl) (by cbv<;>rfl) (by trivial) (Eqv.lit (by subst hO;simp [std])) ?_
  refine AnyE.tkO bo_tidy tok hO 34 39 34359738367 (by kernel_rfl) (by kernel_rfl) (by cbv<;>rfl) (by trivial) (Eqv.refl _) ?_
  refine AnyE.tkO bo_tidy tok hO 35 40 68719476735 (by kernel_rfl) (by kernel_rfl) (by cbv<;>rfl) (by trivial) (Eqv.refl _) ?_
  refine AnyE.tkO bo_tidy tok hO 36 41 137438953471 (by kernel_rfl) (by kernel_rfl) (by cbv<;>rfl) (by trivial) (Eqv.refl _) ?_
  refine AnyE.tkO bo_tidy tok hO 37 42 274877906943 (by kernel_rfl) (by kernel_rfl) (by cbv<;>rfl) (by trivial) (Eqv.refl _) ?_
  refine AnyE.tkO bo_tidy tok hO 38 43 549755813887 (by kernel_rfl) (by kernel_rfl) (by cbv<;>rfl) (by trivial) (Eqv.refl _) ?_
  refine AnyE.tkO bo_tidy tok hO 39 44 1099511627775 (by kernel_rfl) (by kernel_rfl) (by cbv<;>rfl) (by trivial) (Eqv.refl _) ?_
  refine AnyE.cp t3 40 45 2199023255551 (by kernel_rfl) (by cbv<;>rfl) (by cbv<;>rfl) (by kernel_rfl) rfl (by repeat (first | exact trivial | refine And.intro (by cbv<;>rfl) ?_)) ?_
  refine AnyE.tkO bo_tidy tok hO 41 46 4398046511103 (r:=.lit (.bool true)) (by kernel_rfl) (by kernel_rfl) (by cbv<;>rfl) (by trivial) (Eqv.lit (by subst hO;simp [std])) ?_
  refine AnyE.tkO bo_tidy tok hO 42 47 8796093022207 (by kernel_rfl) (by kernel_rfl) (by cbv<;>rfl) (by trivial) (Eqv.refl _) ?_
  refine AnyE.tkO bo_tidy tok hO 43 48 17592186044415 (by kernel_rfl) (by kernel_rfl) (by cbv<;>rfl) (by trivial) (Eqv.refl _) ?_
  refine AnyE.tkO bo_tidy tok hO 44 49 35184372088831 (by kernel_rfl) (by kernel_rfl) (by cbv<;>rfl) (by trivial) (Eqv.refl _) ?_
  refine AnyE.tkO bo_tidy tok hO 45 50 70368744177663 (by kernel_rfl) (by kernel_rfl) (by cbv<;>rfl) (by trivial) (Eqv.refl _) ?_
  refine AnyE.tkO bo_tidy tok hO 46 51 140737488355327 (by kernel_rfl) (by kernel_rfl) (by cbv<;>rfl) (by trivial) (Eqv.refl _) ?_
  refine AnyE.tkO bo_tidy tok hO 47 52 281474976710655 (by kernel_rfl) (by kernel_rfl) (by cbv<;>rfl) (by trivial) (Eqv.refl _) ?_
  refine AnyE.cp t4 48 53 562949953421311 (by kernel_rfl) (by cbv<;>rfl) (by cbv<;>rfl) (by kernel_rfl) rfl (by repeat (first | exact trivial | refine And.intro (by cbv<;>rfl) ?_)) ?_
  refine AnyE.tkO bo_tidy tok hO 49 54 1125899906842623 (r:=.lit (.bool true)) (by kernel_rfl) (by kernel_rfl) (by cbv<;>rfl) (by trivial) (Eqv.lit (by subst hO;simp [std])) ?_
  refine AnyE.tkO bo_tidy tok hO 50 55 2251799813685247 (by kernel_rfl) (by kernel_rfl) (by cbv<;>rfl) (by trivial) (Eqv.refl _) ?_
  refine AnyE.efB tok hO 51 4503599627370495 (by kernel_rfl) (by cbv<;>rfl) (by cbv<;>rfl) (by trivial) (by kernel_rfl) (by repeat (first | exact trivial | refine And.intro (by cbv<;>rfl) ?_)) ?_
  refine AnyE.done (by kernel_rfl) ?_
  exact SW.ret ⟨_,_,rfl,rfl,Eqv.of rfl⟩
set_option maxHeartbeats 64000000 in
theorem bound21_ok (n:Nat)(f g h f' g' h':Nat→Nat→AV)(p q r s t u v w:Int)(b0:Below 0 (.isl n 2 false f))(b1:Below 0 (.isl n 2 false g))(b2:Below 0 (.isl n 2 false h))(b3:Below 0 (.isl n 2 false f'))(b4:Below 0 (.isl n 2 false g'))(b5:Below 0 (.isl n 2 false h'))
    (e1:Pure Try.prog 36 [(.isl n 2 false f),(.isl n 2 false f')] (.lit (.bool true)))(e2:Pure Try.prog 36 [(.isl n 2 false g),(.isl n 2 false g')] (.lit (.bool true)))(e3:Pure Try.prog 36 [(.isl n 2 false h),(.isl n 2 false h')] (.lit (.bool true))) :
    Pure Try.prog 21 [.agg [(.isl n 2 false f),(.isl n 2 false g),(.isl n 2 false h),iV p,iV q,iV r,iV s,iV t,iV u,iV v,iV w],.agg [(.isl n 2 false f'),(.isl n 2 false g'),(.isl n 2 false h'),iV p,iV q,iV r,iV s,iV t,iV u,iV v,iV w]] (.lit (.bool true)) := by
  obtain ⟨O,hO⟩ : ∃ O : Ar,O = std := ⟨_,rfl⟩
  have t1 := to70_ok p q
  have t2 := to70_ok r s
  have t3 := to70_ok t u
  have t4 := to70_ok v w
  refine pure_of_body tok 3 Try.func21 en21 rfl ⟨Below.agg (AllB.ok ⟨b0,b1,b2,Below.lit,Below.lit,Below.lit,Below.lit,Below.lit,Below.lit,Below.lit,Below.lit,trivial⟩),Below.agg (AllB.ok ⟨b3,b4,b5,Below.lit,Below.lit,Below.lit,Below.lit,Below.lit,Below.lit,Below.lit,Below.lit,trivial⟩),trivial⟩ Below.lit ?_
  refine SW.seqRun tok hO (by cbv<;>rfl) (by trivial) ?_
  refine SW.seq (show SW Try.prog none (.region 1 bo1 true) _ _ _ from ?_)
  refine SW.drawnB tok (M:=boM) mixed 52 bo_tidy bo_size (by kernel_rfl) ?_
  refine AnyE.tkO bo_tidy tok hO 0 5 1 (by kernel_rfl) (by kernel_rfl) (by cbv<;>rfl) (by trivial) (Eqv.refl _) ?_
  refine AnyE.tkO bo_tidy tok hO 1 6 3 (by kernel_rfl) (by kernel_rfl) (by cbv<;>rfl) (by trivial) (Eqv.refl _) ?_
  refine AnyE.tkO bo_tidy tok hO 2 7 7 (by kernel_rfl) (by kernel_rfl) (by cbv<;>rfl) (by trivial) (Eqv.refl _) ?_
  refine AnyE.tkO bo_tidy tok hO 3 8 15 (by kernel_rfl) (by kernel_rfl) (by cbv<;>rfl) (by trivial) (Eqv.refl _) ?_
  refine AnyE.cp e1 4 9 31 (by kernel_rfl) (by cbv<;>rfl) (by cbv<;>rfl) (by kernel_rfl) rfl (by repeat (first | exact trivial | refine And.intro (by cbv<;>rfl) ?_)) ?_
  refine AnyE.tkO bo_tidy tok hO 5 10 63 (by kernel_rfl) (by kernel_rfl) (by cbv<;>rfl) (by trivial) (Eqv.refl _) ?_
  refine AnyE.tkO bo_tidy tok hO 6 11 127 (by kernel_rfl) (by kernel_rfl) (by cbv<;>rfl) (by trivial) (Eqv.refl _) ?_
  refine AnyE.tkO bo_tidy tok hO 7 12 255 (by kernel_rfl) (by kernel_rfl) (by cbv<;>rfl) (by trivial) (Eqv.refl _) ?_
  refine AnyE.tkO bo_tidy tok hO 8 13 511 (by kernel_rfl) (by kernel_rfl) (by cbv<;>rfl) (by trivial) (Eqv.refl _) ?_
  refine AnyE.tkO bo_tidy tok hO 9 14 1023 (by kernel_rfl) (by kernel_rfl) (by cbv<;>rfl) (by trivial) (Eqv.refl _) ?_
  refine AnyE.cp e2 10 15 2047 (by kernel_rfl) (by cbv<;>rfl) (by cbv<;>rfl) (by kernel_rfl) rfl (by repeat (first | exact trivial | refine And.intro (by cbv<;>rfl) ?_)) ?_
  refine AnyE.tkO bo_tidy tok hO 11 16 4095 (by kernel_rfl) (by kernel_rfl) (by cbv<;>rfl) (by trivial) (Eqv.refl _) ?_
  refine AnyE.tkO bo_tidy tok hO 12 17 8191 (by kernel_rfl) (by kernel_rfl) (by cbv<;>rfl) (by trivial) (Eqv.refl _) ?_
  refine AnyE.tkO bo_tidy tok hO 13 18 16383 (by kernel_rfl) (by kernel_rfl) (by cbv<;>rfl) (by trivial) (Eqv.refl _) ?_
  refine AnyE.tkO bo_tidy tok hO 14 19 32767 (by kernel_rfl) (by kernel_rfl) (by cbv<;>rfl) (by trivial) (Eqv.refl _) ?_
  refine AnyE.tkO bo_tidy tok hO 15 20 65535 (by kernel_rfl) (by kernel_rfl) (by cbv<;>rfl) (by trivial) (Eqv.refl _) ?_
  refine AnyE.tkO bo_tidy tok hO 16 21 131071 (by kernel_rfl) (by kernel_rfl) (by cbv<;>rfl) (by trivial) (Eqv.refl _) ?_
  refine AnyE.cp e3 17 22 262143 (by kernel_rfl) (by cbv<;>rfl) (by cbv<;>rfl) (by kernel_rfl) rfl (by repeat (first | exact trivial | refine And.intro (by cbv<;>rfl) ?_)) ?_
  refine AnyE.tkO bo_tidy tok hO 18 23 524287 (by kernel_rfl) (by kernel_rfl) (by cbv<;>rfl) (by trivial) (Eqv.refl _) ?_
  refine AnyE.tkO bo_tidy tok hO 19 24 1048575 (by kernel_rfl) (by kernel_rfl) (by cbv<;>rfl) (by trivial) (Eqv.refl _) ?_
  refine AnyE.tkO bo_tidy tok hO 20 25 2097151 (by kernel_rfl) (by kernel_rfl) (by cbv<;>rfl) (by trivial) (Eqv.refl _) ?_
  refine AnyE.tkO bo_tidy tok hO 21 26 4194303 (by kernel_rfl) (by kernel_rfl) (by cbv<;>rfl) (by trivial) (Eqv.refl _) ?_
  refine AnyE.tkO bo_tidy tok hO 22 27 8388607 (by kernel_rfl) (by kernel_rfl) (by cbv<;>rfl) (by trivial) (Eqv.refl _) ?_
  refine AnyE.tkO bo_tidy tok hO 23 28 16777215 (by kernel_rfl) (by kernel_rfl) (by cbv<;>rfl) (by trivial) (Eqv.refl _) ?_
  refine AnyE.cp t1 24 29 33554431 (by kernel_rfl) (by cbv<;>rfl) (by cbv<;>rfl) (by kernel_rfl) rfl (by repeat (first | exact trivial | refine And.intro (by cbv<;>rfl) ?_)) ?_
  refine AnyE.tkO bo_tidy tok hO 25 30 67108863 (r:=.lit (.bool true)) (by kernel_rfl) (by kernel_rfl) (by cbv<;>rfl) (by trivial) (Eqv.lit (by subst hO;simp [std])) ?_
  refine AnyE.tkO bo_tidy tok hO 26 31 134217727 (by kernel_rfl) (by kernel_rfl) (by cbv<;>rfl) (by trivial) (Eqv.refl _) ?_
  refine AnyE.tkO bo_tidy tok hO 27 32 268435455 (by kernel_rfl) (by kernel_rfl) (by cbv<;>rfl) (by trivial) (Eqv.refl _) ?_
  refine AnyE.tkO bo_tidy tok hO 28 33 536870911 (by kernel_rfl) (by kernel_rfl) (by cbv<;>rfl) (by trivial) (Eqv.refl _) ?_
  refine AnyE.tkO bo_tidy tok hO 29 34 1073741823 (by kernel_rfl) (by kernel_rfl) (by cbv<;>rfl) (by trivial) (Eqv.refl _) ?_
  refine AnyE.tkO bo_tidy tok hO 30 35 2147483647 (by kernel_rfl) (by kernel_rfl) (by cbv<;>rfl) (by trivial) (Eqv.refl _) ?_
  refine AnyE.tkO bo_tidy tok hO 31 36 4294967295 (by kernel_rfl) (by kernel_rfl) (by cbv<;>rfl) (by trivial) (Eqv.refl _) ?_
  refine AnyE.cp t2 32 37 8589934591 (by kernel_rfl) (by cbv<;>rfl) (by cbv<;>rfl) (by kernel_rfl) rfl (by repeat (first | exact trivial | refine And.intro (by cbv<;>rfl) ?_)) ?_
  refine AnyE.tkO bo_tidy tok hO 33 38 17179869183 (r:=.lit (.bool true)) (by kernel_rfl) (by kernel_rfl) (by cbv<;>rfl) (by trivial) (Eqv.lit (by subst hO;simp [std])) ?_
  refine AnyE.tkO bo_tidy tok hO 34 39 34359738367 (by kernel_rfl) (by kernel_rfl) (by cbv<;>rfl) (by trivial) (Eqv.refl _) ?_
  refine AnyE.tkO bo_tidy tok hO 35 40 68719476735 (by kernel_rfl) (by kernel_rfl) (by cbv<;>rfl) (by trivial) (Eqv.refl _) ?_
  refine AnyE.tkO bo_tidy tok hO 36 41 137438953471 (by kernel_rfl) (by kernel_rfl) (by cbv<;>rfl) (by trivial) (Eqv.refl _) ?_
  refine AnyE.tkO bo_tidy tok hO 37 42 274877906943 (by kernel_rfl) (by kernel_rfl) (by cbv<;>rfl) (by trivial) (Eqv.refl _) ?_
  refine AnyE.tkO bo_tidy tok hO 38 43 549755813887 (by kernel_rfl) (by kernel_rfl) (by cbv<;>rfl) (by trivial) (Eqv.refl _) ?_
  refine AnyE.tkO bo_tidy tok hO 39 44 1099511627775 (by kernel_rfl) (by kernel_rfl) (by cbv<;>rfl) (by trivial) (Eqv.refl _) ?_
  refine AnyE.cp t3 40 45 2199023255551 (by kernel_rfl) (by cbv<;>rfl) (by cbv<;>rfl) (by kernel_rfl) rfl (by repeat (first | exact trivial | refine And.intro (by cbv<;>rfl) ?_)) ?_
  refine AnyE.tkO bo_tidy tok hO 41 46 4398046511103 (r:=.lit (.bool true)) (by kernel_rfl) (by kernel_rfl) (by cbv<;>rfl) (by trivial) (Eqv.lit (by subst hO;simp [std])) ?_
  refine AnyE.tkO bo_tidy tok hO 42 47 8796093022207 (by kernel_rfl) (by kernel_rfl) (by cbv<;>rfl) (by trivial) (Eqv.refl _) ?_
  refine AnyE.tkO bo_tidy tok hO 43 48 17592186044415 (by kernel_rfl) (by kernel_rfl) (by cbv<;>rfl) (by trivial) (Eqv.refl _) ?_
  refine AnyE.tkO bo_tidy tok hO 44 49 35184372088831 (by kernel_rfl) (by kernel_rfl) (by cbv<;>rfl) (by trivial) (Eqv.refl _) ?_
  refine AnyE.tkO bo_tidy tok hO 45 50 70368744177663 (by kernel_rfl) (by kernel_rfl) (by cbv<;>rfl) (by trivial) (Eqv.refl _) ?_
  refine AnyE.tkO bo_tidy tok hO 46 51 140737488355327 (by kernel_rfl) (by kernel_rfl) (by cbv<;>rfl) (by trivial) (Eqv.refl _) ?_
  refine AnyE.tkO bo_tidy tok hO 47 52 281474976710655 (by kernel_rfl) (by kernel_rfl) (by cbv<;>rfl) (by trivial) (Eqv.refl _) ?_
  refine AnyE.cp t4 48 53 562949953421311 (by kernel_rfl) (by cbv<;>rfl) (by cbv<;>rfl) (by kernel_rfl) rfl (by repeat (first | exact trivial | refine And.intro (by cbv<;>rfl) ?_)) ?_
  refine AnyE.tkO bo_tidy tok hO 49 54 1125899906842623 (r:=.lit (.bool true)) (by kernel_rfl) (by kernel_rfl) (by cbv<;>rfl) (by trivial) (Eqv.lit (by subst hO;simp [std])) ?_
  refine AnyE.tkO bo_tidy tok hO 50 55 2251799813685247 (by kernel_rfl) (by kernel_rfl) (by cbv<;>rfl) (by trivial) (Eqv.refl _) ?_
  refine AnyE.efB tok hO 51 4503599627370495 (by kernel_rfl) (by cbv<;>rfl) (by cbv<;>rfl) (by trivial) (by kernel_rfl) (by repeat (first | exact trivial | refine And.intro (by cbv<;>rfl) ?_)) ?_
  refine AnyE.done (by kernel_rfl) ?_
  exact SW.ret ⟨_,_,rfl,rfl,Eqv.of rfl⟩
end Go.Fz
namespace Go.Fz
open Go.Proofs
set_option maxRecDepth 100000
set_option linter.unusedVariables false
noncomputable def bdP : {a:Array Oper // cL (cR (cR (cR (cR (cR (bodyF Try.f3)))))) = .region 7 a true} := ⟨_,by rfl⟩
noncomputable def bd7 : Array Oper := bdP.1
def bdM : List Nat := [0,1,3,7,7,7,55,127,255,511,1023,2047,4095]
theorem bd_tidy : tidyB bd7 bdM = true := by kernel_rfl
theorem bd_size : bd7.size = 13 := by kernel_rfl
def bdS (d:DayD)(B:List AV) : St := ⟨[(1,.cells none false B),(0,.cells none false (dayC d))],2⟩
set_option maxHeartbeats 16000000 in
theorem bd_3 (d:DayD)(B:List AV)(x y z:AV)(r0 r1 r2 r3 r4 r5 r6 r7:Int)(hB:B = [x,y,z,iV r0,iV r1,iV r2,iV r3,iV r4,iV r5,iV r6,iV r7])(hx:(x = nl3 ∧ y = nl3 ∧ z = nl3) ∨ ∃ n f g h,x = .isl n 2 false f ∧ y = .isl n 2 false g ∧ z = .isl n 2 false h)(e:Int)(g:Nat→AV)(O:Ar)(hO:O = std)(hday:Pure Try.prog 19 [dayV d] (dayV d))(hbo:Pure Try.prog 18 [dayV d] (.tup [.agg B,iV e]))(h:AllP (fun p => g p.1 = p.2) [(1,.ptr 0 0)]) :
    SW Try.prog none (nthC 2 (bodyF Try.f3)) (midK 47 [(1,.ptr 0 0),(3,.ptr 1 0),(4,iV e)] (bdS d B)) ⟨⟨47,g⟩,[]⟩ ⟨[(0,.cells none false (dayC d))],1⟩ := by
  obtain ⟨g1,_⟩ := h
  simp only at g1
  rw [← updT_self g1]
  subst hB
  rcases hx with ⟨rfl,rfl,rfl⟩ | ⟨n,f0,f1,f2,rfl,rfl,rfl⟩
  all_goals
    refine SW.run tok hO (by cbv<;>rfl) (by trivial) ?_
    refine OpsW.callP hday (by cbv<;>rfl) ?_
    refine OpsW.run tok hO (by cbv<;>rfl) (by trivial) ?_
    refine OpsW.callP hbo (by cbv<;>rfl) ?_
    refine OpsW.run tok hO (by cbv<;>rfl) (by trivial) ?_
    exact ⟨rfl,_,rfl,⟨rfl,rfl,rfl,trivial⟩,rfl⟩
set_option maxHeartbeats 16000000 in
theorem bd_4 (d:DayD)(B:List AV)(e s:Int)(A:AV)(g:Nat→AV)(O:Ar)(hO:O = std)(hsu:Pure Try.prog 20 [dayV d] (.tup [A,iV s]))(h:AllP (fun p => g p.1 = p.2) [(1,.ptr 0 0),(3,.ptr 1 0),(4,iV e)]) :
    SW Try.prog none (nthC 3 (bodyF Try.f3)) (midK 47 [(1,.ptr 0 0),(3,.ptr 1 0),(4,iV e),(5,A),(6,iV s)] (bdS d B)) ⟨⟨47,g⟩,[]⟩ (bdS d B) := by
  obtain ⟨g1,g3,g4,_⟩ := h
  simp only at g1 g3 g4
  rw [← updT_self g1,← updT_self g3,← updT_self g4]
  refine SW.run tok hO (by cbv<;>rfl) (by trivial) ?_
  refine OpsW.callP hsu (by cbv<;>rfl) ?_
  refine OpsW.run tok hO (by cbv<;>rfl) (by trivial) ?_
  exact ⟨rfl,_,rfl,⟨rfl,rfl,rfl,rfl,rfl,trivial⟩,rfl⟩
set_option maxHeartbeats 16000000 in
theorem bd_err (haw:Pure Try.prog 17 [] (.lit (.bool true)))(d:DayD)(c:Int)(hc:c ≠ 0)(A:AV)(g:Nat→AV)(O:Ar)(hO:O = std)(h:AllP (fun p => g p.1 = p.2) [(1,.ptr 0 0),(3,.ptr 1 0),(4,iV c),(5,A),(6,iV c)]) :
    SW Try.prog none (restC 4 (bodyF Try.f3)) (fun e f st => e = .ret ∧ f.dm = [] ∧ f.ts.get 2 = .lit (.bool true)) ⟨⟨47,g⟩,[]⟩ (bdS d bnd0) := by
  have hz := bound21_z 0 0 0 0 0 0 0 0
  have hne : O.cmp .neq c 0 = true := by subst hO;simpa [std] using hc
  have heq : O.cmp .eql c c = true := by subst hO;simp [std]
  obtain ⟨g1,g3,g4,g5,g6,_⟩ := h
  simp only at g1 g3 g4 g5 g6
  rw [← updT_self g1,← updT_self g3,← updT_self g4,← updT_self g5,← updT_self g6]
  refine SW.seq ?_
  refine SW.seqRun tok hO (by cbv<;>rfl) (by trivial) ?_
  refine SW.condS (by cbv<;>rfl) (fun h3 => ?_) (fun h3 => absurd (show true = false from hne.symm.trans h3) (by decide))
  refine SW.seqRun tok hO (by cbv<;>rfl) (by trivial) ?_
  refine OpsW.splitG (by cbv<;>rfl) (fun _ => ?_) (fun h4 => absurd (show true = false from heq.symm.trans h4) (by decide))
  refine OpsW.run tok hO (by cbv<;>rfl) (by trivial) ?_
  refine OpsW.callP hz (by cbv<;>rfl) ?_
  refine OpsW.run tok hO (by cbv<;>rfl) (by trivial) ?_
  refine OpsW.callP haw (by cbv<;>rfl) ?_
  refine OpsW.run tok hO (by cbv<;>rfl) (by trivial) ?_
  exact SW.ret ⟨rfl,rfl,rfl⟩
set_option maxHeartbeats 16000000 in
theorem bd_fine (haw:Pure Try.prog 17 [] (.lit (.bool true)))(d:DayD)(n:Nat)(f0 f1 f2:Nat→Nat→AV)(p q r s t u v w:Int)(A:AV)(hb:Pure Try.prog 22 [dayV d,A] (.agg [.isl n 2 false f0,.isl n 2 false f1,.isl n 2 false f2,iV p,iV q,iV r,iV s,iV t,iV u,iV v,iV w]))(h21:Pure Try.prog 21 [.agg [.isl n 2 false f0,.isl n 2 false f1,.isl n 2 false f2,iV p,iV q,iV r,iV s,iV t,iV u,iV v,iV w],.agg [.isl n 2 false f0,.isl n 2 false f1,.isl n 2 false f2,iV p,iV q,iV r,iV s,iV t,iV u,iV v,iV w]] (.lit (.bool true)))(g:Nat→AV)(O:Ar)(hO:O = std)(h:AllP (fun p => g p.1 = p.2) [(1,.ptr 0 0),(3,.ptr 1 0),(4,iV 0),(5,A),(6,iV 0)]) :
    SW Try.prog none (restC 4 (bodyF Try.f3)) (fun e f st => e = .ret ∧ f.dm = [] ∧ f.ts.get 2 = .lit (.bool true)) ⟨⟨47,g⟩,[]⟩ (bdS d [.isl n 2 false f0,.isl n 2 false f1,.isl n 2 false f2,iV p,iV q,iV r,iV s,iV t,iV u,iV v,iV w]) := by
  have hne : O.cmp .neq 0 0 = false := by subst hO;rfl
  obtain ⟨g1,g3,g4,g5,g6,_⟩ := h
  simp only at g1 g3 g4 g5 g6
  rw [← updT_self g1,← updT_self g3,← updT_self g4,← updT_self g5,← updT_self g6]
  refine SW.seq ?_
  refine SW.seqRun tok hO (by cbv<;>rfl) (by trivial) ?_
  refine SW.condS (by cbv<;>rfl) (fun h3 => absurd (show false = true from hne.symm.trans h3) (by decide)) (fun h3 => SW.skip ?_)
  refine SW.seq (show SW Try.prog none (.region 7 bd7 true) _ _ _ from ?_)
  refine SW.drawnB tok (M:=bdM) mixed 13 bd_tidy bd_size (by kernel_rfl) ?_
  refine AnyE.tkO bd_tidy tok hO 0 35 1 (by kernel_rfl) (by kernel_rfl) (by cbv<;>rfl) (by trivial) (Eqv.refl _) ?_
  refine AnyE.tkO bd_tidy tok hO 1 36 3 (r:=.lit (.bool true)) (by kernel_rfl) (by kernel_rfl) (by cbv<;>rfl) (by trivial) (Eqv.lit (by subst hO;rfl)) ?_
  refine AnyE.tkO bd_tidy tok hO 2 37 7 (by kernel_rfl) (by kernel_rfl) (by cbv<;>rfl) (by trivial) (Eqv.refl _) ?_
  refine AnyE.tkO bd_tidy tok hO 3 38 15 (by kernel_rfl) (by kernel_rfl) (by cbv<;>rfl) (by trivial) (Eqv.refl _) ?_
  refine AnyE.tkO bd_tidy tok hO 4 39 31 (by kernel_rfl) (by kernel_rfl) (by cbv<;>rfl) (by trivial) (Eqv.refl _) ?_
  refine AnyE.tkO bd_tidy tok hO 5 40 63 (by kernel_rfl) (by kernel_rfl) (by cbv<;>rfl) (by trivial) (Eqv.refl _) ?_
  refine AnyE.cpN hb 6 41 127 (by kernel_rfl) (by kernel_rfl) (by cbv<;>rfl) (by cbv<;>rfl) (by kernel_rfl) rfl ?_
  refine AnyE.cpN h21 7 42 255 (by kernel_rfl) (by kernel_rfl) (by cbv<;>rfl) (by cbv<;>rfl) (by kernel_rfl) rfl ?_
  refine AnyE.tkO bd_tidy tok hO 8 43 511 (by kernel_rfl) (by kernel_rfl) (by cbv<;>rfl) (by trivial) (Eqv.refl _) ?_
  refine AnyE.tkO bd_tidy tok hO 9 44 1023 (by kernel_rfl) (by kernel_rfl) (by cbv<;>rfl) (by trivial) (Eqv.refl _) ?_
  refine AnyE.cpN haw 10 45 2047 (by kernel_rfl) (by kernel_rfl) (by cbv<;>rfl) (by cbv<;>rfl) (by kernel_rfl) rfl ?_
  refine AnyE.tkO bd_tidy tok hO 11 46 4095 (by kernel_rfl) (by kernel_rfl) (by cbv<;>rfl) (by trivial) (Eqv.refl _) ?_
  refine AnyE.efB tok hO 12 8191 (by kernel_rfl) (by cbv<;>rfl) (by cbv<;>rfl) (by trivial) (by kernel_rfl) (by repeat (first | exact trivial | refine And.intro (by cbv<;>rfl) ?_)) ?_
  refine AnyE.done (by kernel_rfl) ?_
  exact SW.ret ⟨rfl,by kernel_rfl,by kernel_rfl⟩
end Go.Fz
namespace Go.Fz
open Go.Proofs
set_option maxRecDepth 100000
set_option linter.unusedVariables false
theorem mnK_spec (f:Nat→Int)(a:Int) : ∀ n,(mnK f a n = a ∨ ∃ k,k < n ∧ mnK f a n = f k) ∧ mnK f a n ≤ a ∧ ∀ k,k < n→mnK f a n ≤ f k
  | 0 => ⟨.inl rfl,Int.le_refl _,fun k hk => absurd hk (Nat.not_lt_zero k)⟩
  | n + 1 => by
    obtain ⟨h1,h2,h3⟩ := mnK_spec f a n
    have he : mnK f a (n + 1) = if f n < mnK f a n then f n else mnK f a n := rfl
    by_cases hc : f n < mnK f a n
    · rw [if_pos hc] at he
      rw [he]
      refine ⟨.inr ⟨n,Nat.lt_succ_self n,rfl⟩,by omega,fun k hk => ?_⟩
      by_cases hkn : k = n
      · subst hkn;exact Int.le_refl _
      · have := h3 k (by omega);omega
    · rw [if_neg hc] at he
      rw [he]
      refine ⟨?_,h2,fun k hk => ?_⟩
      · rcases h1 with h1 | ⟨k,hk,h1⟩
        · exact .inl h1
        · exact .inr ⟨k,by omega,h1⟩
      · by_cases hkn : k = n
        · subst hkn;omega
        · exact h3 k (by omega)
theorem mxK_spec (f:Nat→Int)(a:Int) : ∀ n,(mxK f a n = a ∨ ∃ k,k < n ∧ mxK f a n = f k) ∧ a ≤ mxK f a n ∧ ∀ k,k < n→f k ≤ mxK f a n
  | 0 => ⟨.inl rfl,Int.le_refl _,fun k hk => absurd hk (Nat.not_lt_zero k)⟩
  | n + 1 => by
    obtain ⟨h1,h2,h3⟩ := mxK_spec f a n
    have he : mxK f a (n + 1) = if f n > mxK f a n then f n else mxK f a n := rfl
    by_cases hc : f n > mxK f a n
    · rw [if_pos hc] at he
      rw [he]
      refine ⟨.inr ⟨n,Nat.lt_succ_self n,rfl⟩,by omega,fun k hk => ?_⟩
      by_cases hkn : k = n
      · subst hkn;exact Int.le_refl _
      · have := h3 k (by omega);omega
    · rw [if_neg hc] at he
      rw [he]
      refine ⟨?_,h2,fun k hk => ?_⟩
      · rcases h1 with h1 | ⟨k,hk,h1⟩
        · exact .inl h1
        · exact .inr ⟨k,by omega,h1⟩
      · by_cases hkn : k = n
        · subst hkn;omega
        · exact h3 k (by omega)
theorem mnK_eq {f:Nat→Int}{a m:Int}{n:Nat}(h1:∃ k,k < n ∧ f k = m)(h2:∀ k,k < n→m ≤ f k)(ha:m ≤ a) : mnK f a n = m := by
  obtain ⟨k,hk,e⟩ := h1
  obtain ⟨s1,s2,s3⟩ := mnK_spec f a n
  have h3 := s3 k hk
  rcases s1 with s1 | ⟨j,hj,s1⟩
  · omega
  · have := h2 j hj;omega
theorem mxK_eq {f:Nat→Int}{a m:Int}{n:Nat}(h1:∃ k,k < n ∧ f k = m)(h2:∀ k,k < n→f k ≤ m)(ha:a ≤ m) : mxK f a n = m := by
  obtain ⟨k,hk,e⟩ := h1
  obtain ⟨s1,s2,s3⟩ := mxK_spec f a n
  have h3 := s3 k hk
  rcases s1 with s1 | ⟨j,hj,s1⟩
  · omega
  · have := h2 j hj;omega
theorem ends_sel {d:DayD}(hc:d.check = 0)(hne:d.seen.outs ≠ []){V:TruD→Int}(hV:d.Val V)(hb:∀ k,k < d.sN→0 ≤ V (d.sT k) ∧ V (d.sT k) ≤ 1000000000) :
    mnK (fun k => V (d.sT k)) 1099511627776 d.sN = mnF (fun i => V (d.tr i)) d.oN ∧ mxK (fun k => V (d.sT k)) (-1099511627776) d.sN = mxF (fun i => V (d.tr i)) d.oN := by
  have lo := end_lo hc hne hV
  have hi := end_hi hc hne hV
  refine ⟨mnK_eq lo (fun k hk => (sel_in hc hV hk).1) ?_,mxK_eq hi (fun k hk => (sel_in hc hV hk).2) ?_⟩
  · obtain ⟨k,hk,e⟩ := lo
    have := hb k hk;omega
  · obtain ⟨k,hk,e⟩ := hi
    have := hb k hk;omega
theorem tmod_le {a b:Int}(ha:0 ≤ a)(hb:1 ≤ b) : 0 ≤ a.tmod b ∧ a.tmod b ≤ a := by
  obtain ⟨h1,h2,h3,h4,h5⟩ := tdiv_nn ha hb
  have h6 : 0 ≤ a.tdiv b * b := Int.mul_nonneg h1 (by omega)
  omega
theorem quo_le {a b:Int}(ha:0 ≤ a)(ha2:a ≤ 1000000000)(hb:1 ≤ b) : 0 ≤ quo64 a b ∧ quo64 a b ≤ a := by
  rw [quo64_nn ha ha2 hb]
  obtain ⟨h1,h2,_⟩ := tdiv_nn ha hb
  exact ⟨h1,h2⟩
theorem bun_small {d:DayD}{t:TruD}(g:d.Good)(h:d.fits t = true){w:Nat}(hw:w < d.nw) : 0 ≤ d.bun t w ∧ d.bun t w ≤ 1000000000 := by
  obtain ⟨b1,b2,b3,b4⟩ := tally_bounds g h
  obtain ⟨_,h2,_,_⟩ := fits_true h
  have h3 := b2 w hw
  have h4 := quo_le h3.1 h3.2 (b1 w hw)
  unfold DayD.bun
  rw [h2];omega
theorem tal_small {d:DayD}{t:TruD}(g:d.Good)(h:d.fits t = true) : (∀ w,w < d.nw→0 ≤ d.lef t w ∧ d.lef t w ≤ 1000000000) ∧ (0 ≤ (d.tally t).hands ∧ (d.tally t).hands ≤ 1000000000) ∧ (0 ≤ (d.tally t).loose ∧ (d.tally t).loose ≤ 1000000000) ∧ (0 ≤ (d.tally t).flats ∧ (d.tally t).flats ≤ 1000000000) ∧ (0 ≤ (d.tally t).spare ∧ (d.tally t).spare ≤ 1000000000) := by
  obtain ⟨b1,b2,b3,b4⟩ := tally_bounds g h
  obtain ⟨_,h2,_,_⟩ := fits_true h
  have hh := g.hand.1
  have hf := g.flat.1
  obtain ⟨q1,q2⟩ := quo_le b3 b4 hh
  refine ⟨fun w hw => ?_,⟨q1,by show quo64 (d.all t) d.hand ≤ _;omega⟩,?_,?_,?_⟩
  · unfold DayD.lef
    rw [h2]
    have h3 := b2 w hw
    have := tmod_le h3.1 (b1 w hw)
    omega
  · have := tmod_le b3 hh
    exact ⟨this.1,by show (d.all t).tmod d.hand ≤ _;omega⟩
  · obtain ⟨p1, p2⟩ := quo_le q1 (by omega) hf
    exact ⟨p1,by show quo64 (quo64 (d.all t) d.hand) d.flat ≤ _;omega⟩
  · have := tmod_le q1 hf
    exact ⟨this.1,by show (quo64 (d.all t) d.hand).tmod d.flat ≤ _;omega⟩
theorem rng_eqv {n:Nat}{lo hi lo' hi':Nat→Int}(h:∀ i,i < n→lo i = lo' i ∧ hi i = hi' i) : Eqv (.isl n 2 false (rngC lo hi)) (.isl n 2 false (rngC lo' hi')) :=
  Eqv.isl rfl fun i k hi0 _ => Eqv.of (by
    obtain ⟨e1,e2⟩ := h i hi0
    unfold rngC
    cases k with
    | zero => show iV _ = iV _;rw [e1]
    | succ k => show iV _ = iV _;rw [e2])
theorem int_eqv {a b:Int}(h:a = b) : Eqv (iV a) (iV b) := by rw [h];exact Eqv.refl _
theorem bof_eqv {d:DayD}(g:d.Good)(hc:d.check = 0)(hne:d.seen.outs ≠ []) : Eqv (bofV d d.sN 1099511627776 (-1099511627776) (fun k => (d.sT k).fe) (fun k => d.bun (d.sT k)) (fun k => d.lef (d.sT k)) (fun k => (d.tally (d.sT k)).hands) (fun k => (d.tally (d.sT k)).loose) (fun k => (d.tally (d.sT k)).flats) (fun k => (d.tally (d.sT k)).spare)) d.bndV := by
  have fit := fun k (hk:k < d.sN) => sel_fit hc hk
  have v0 := fun w (hw:w < d.nw) => ends_sel hc hne (val_fe d hw) (fun k hk => by have := tr_feel g (fit k hk) hw;omega)
  have v1 := fun w (hw:w < d.nw) => ends_sel hc hne (val_bun d hw) (fun k hk => bun_small g (fit k hk) hw)
  have v2 := fun w (hw:w < d.nw) => ends_sel hc hne (val_lef d hw) (fun k hk => (tal_small g (fit k hk)).1 w hw)
  have v3 := ends_sel hc hne (val_hands d) (fun k hk => (tal_small g (fit k hk)).2.1)
  have v4 := ends_sel hc hne (val_loose d) (fun k hk => (tal_small g (fit k hk)).2.2.1)
  have v5 := ends_sel hc hne (val_flats d) (fun k hk => (tal_small g (fit k hk)).2.2.2.1)
  have v6 := ends_sel hc hne (val_spare d) (fun k hk => (tal_small g (fit k hk)).2.2.2.2)
  exact Eqv.agg (.cons (rng_eqv v0) (.cons (rng_eqv v1) (.cons (rng_eqv v2) (.cons (int_eqv v3.1) (.cons (int_eqv v3.2) (.cons (int_eqv v4.1) (.cons (int_eqv v4.2) (.cons (int_eqv v5.1) (.cons (int_eqv v5.2) (.cons (int_eqv v6.1) (.cons (int_eqv v6.2) .nil)))))))))))
set_option maxHeartbeats 16000000 in
theorem bunchBounds_ok (haw:Pure Try.prog 17 [] (.lit (.bool true)))(d:DayD) : Pure Try.prog 3 [dayV d] (.lit (.bool true)) := by
  obtain ⟨O,hO⟩ : ∃ O : Ar,O = std := ⟨_,rfl⟩
  refine pure_of_body tok 3 Try.func3 en3 rfl ⟨dayV_below d,trivial⟩ Below.lit ?_
  refine SW.seqRun tok hO (by cbv<;>rfl) (by trivial) ?_
  refine SW.seq ?_
  refine SW.seqRun tok hO (by cbv<;>rfl) (by trivial) ?_
  have call := thin_ok d
  generalize hR : d.thinB = r at call
  refine OpsW.callP call (by cbv<;>rfl) ?_
  have hnot : O.not r = !r := by subst hO;rfl
  refine OpsW.run tok hO (by cbv<;>rfl) (by trivial) ?_
  refine SW.condS (by cbv<;>rfl) (fun h1 => ?_) (fun h1 => SW.skip ?_)
  · refine SW.seqRun tok hO (by cbv <;> rfl) (by trivial) ?_
    refine OpsW.callP haw (by cbv<;>rfl) ?_
    refine OpsW.run tok hO (by cbv<;>rfl) (by trivial) ?_
    exact SW.ret ⟨_,_,rfl,rfl,Eqv.refl _⟩
  have hr : r = true := by have := hnot.symm.trans h1;simpa using this
  rw [hr] at hR
  obtain ⟨k1,k2,k3⟩ := thin_small hR
  have hsm : d.small := ⟨by omega,by omega,by omega⟩
  have hday := day_ok d k1 k2 k3
  have hf := fault13_ok d hsm
  have hce := checkDay_ok d hsm
  rw [← check_eq d] at hf
  clear call hnot h1 hr
  by_cases hc : d.check = 0
  · have gd := good_of_check hc
    rw [hc] at hf hce
    have hMs : d.sN < 100000 := by
      have h1 := sel_len d
      have h2 := nT_in hc
      have h3 : (d.nT : Int) = d.manyL d.nl := by
        show ((d.manyL d.nl).toNat : Int) = _
        omega
      omega
    have hsu := sure_ok d (selT d.selB d.nT).length _ _ _ _ hMs hf (truths_ok d gd (nT_in hc).1 (nT_in hc).2)
    have hbo := boundsP_ok d hsm hc
    by_cases ho : d.seen.outs = []
    · have hM : (selT d.selB d.nT).length = 0 := (sel_nil hc).2 ho
      rw [if_pos hM,if_pos hM] at hsu
      rw [show d.bndR = .agg bnd0 from if_pos ho,show d.bndE = 11 from if_pos ho] at hbo
      refine SW.seq ((bd_3 d bnd0 nl3 nl3 nl3 0 0 0 0 0 0 0 0 rfl (.inl ⟨rfl,rfl,rfl⟩) 11 _ O hO hday hbo ⟨rfl,trivial⟩).mono fun e f st hm => ?_)
      obtain ⟨rfl,g,rfl,h,rfl⟩ := hm
      refine SW.seq ((bd_4 d bnd0 11 11 nl3 _ O hO hsu h).mono fun e f st hm => ?_)
      clear h;obtain ⟨rfl,g,rfl,h,rfl⟩ := hm
      exact (bd_err haw d 11 (by decide) nl3 _ O hO h).mono fun e f st hm => by obtain ⟨rfl,h3,h2⟩ := hm;exact ⟨_,_,by rw [h3];rfl,rfl,by show Eqv (frz _ _ 3 (f.ts.get 2)) _;rw [h2];exact Eqv.of rfl⟩
    · have hM : ¬ (selT d.selB d.nT).length = 0 := fun h => ho ((sel_nil hc).1 h)
      rw [if_neg hM,if_neg hM] at hsu
      rw [show d.bndR = d.bndV from if_neg ho,show d.bndE = 0 from if_neg ho] at hbo
      have hpl : ∀ i,i < d.sN→Pure Try.prog 47 [dayV d,.agg [intsV d.nw false (d.sT i).fe,intsV d.nl false (d.sT i).st]] (.agg [intsV d.nw false (d.bun (d.sT i)),intsV d.nw false (d.lef (d.sT i)),iV (d.tally (d.sT i)).hands,iV (d.tally (d.sT i)).loose,iV (d.tally (d.sT i)).flats,iV (d.tally (d.sT i)).spare]) := fun i hi => playN_ok' gd (sel_fit hc hi)
      have hb := (refBounds_ok d gd.pos gd.nw d.nl d.sN hMs (fun k => (d.sT k).fe) (fun k => (d.sT k).st) (fun k => d.bun (d.sT k)) (fun k => d.lef (d.sT k)) (fun k => (d.tally (d.sT k)).hands) (fun k => (d.tally (d.sT k)).loose) (fun k => (d.tally (d.sT k)).flats) (fun k => (d.tally (d.sT k)).spare) hpl).res (bof_eqv gd hc ho)
      have hsu2 : Pure Try.prog 20 [dayV d] (.tup [trsV d.sN d.nw d.nl (fun k => (d.sT k).fe) (fun k => (d.sT k).st),iV 0]) := hsu
      unfold DayD.bndV bndC at hbo hb
      have hn : d.nw < 1000 := by have := gd.nw;omega
      clear hsu hpl
      generalize trsV d.sN d.nw d.nl (fun k => (d.sT k).fe) (fun k => (d.sT k).st) = A at hb hsu2
      refine SW.seq ((bd_3 d _ _ _ _ _ _ _ _ _ _ _ _ rfl (.inr ⟨_,_,_,_,rfl,rfl,rfl⟩) 0 _ O hO hday hbo ⟨rfl,trivial⟩).mono fun e f st hm => ?_)
      obtain ⟨rfl,g,rfl,h,rfl⟩ := hm
      refine SW.seq ((bd_4 d _ 0 0 A _ O hO hsu2 h).mono fun e f st hm => ?_)
      clear h;obtain ⟨rfl,g,rfl,h,rfl⟩ := hm
      have bl : ∀ lo hi : Nat→Int,Below 0 (.isl d.nw 2 false (rngC lo hi)) := fun lo hi => Below.isl fun i k _ _ => rngC_below lo hi i k
      exact (bd_fine haw d d.nw _ _ _ _ _ _ _ _ _ _ _ A hb (bound21_ok d.nw _ _ _ _ _ _ _ _ _ _ _ _ _ _ (bl _ _) (bl _ _) (bl _ _) (bl _ _) (bl _ _) (bl _ _) (ranges36_ok _ _ _ hn) (ranges36_ok _ _ _ hn) (ranges36_ok _ _ _ hn)) _ O hO h).mono fun e f st hm => by obtain ⟨rfl,h3,h2⟩ := hm;exact ⟨_,_,by rw [h3];rfl,rfl,by show Eqv (frz _ _ 3 (f.ts.get 2)) _;rw [h2];exact Eqv.of rfl⟩
  · have hsu := sure_bad d d.check hc hf
    have hbo := bounds_err d d.check hc (open_bad d _ d.check hc hce)
    generalize d.check = c at hc hf hce hsu hbo
    refine SW.seq ((bd_3 d bnd0 nl3 nl3 nl3 0 0 0 0 0 0 0 0 rfl (.inl ⟨rfl,rfl,rfl⟩) c _ O hO hday hbo ⟨rfl,trivial⟩).mono fun e f st hm => ?_)
    obtain ⟨rfl,g,rfl,h,rfl⟩ := hm
    refine SW.seq ((bd_4 d bnd0 c c nl3 _ O hO hsu h).mono fun e f st hm => ?_)
    clear h;obtain ⟨rfl,g,rfl,h,rfl⟩ := hm
    exact (bd_err haw d c hc nl3 _ O hO h).mono fun e f st hm => by obtain ⟨rfl,h3,h2⟩ := hm;exact ⟨_,_,by rw [h3];rfl,rfl,by show Eqv (frz _ _ 3 (f.ts.get 2)) _;rw [h2];exact Eqv.of rfl⟩
end Go.Fz
