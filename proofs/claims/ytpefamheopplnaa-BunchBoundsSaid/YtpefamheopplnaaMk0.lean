/- Own work of the verifier of watercress: FzK, FzP, FzBo1, FzW1, FzSe1, FzSe2, FzSe3, FzSe4, FzSe5, FzEn1, FzSe6, FzO2, FzW3, FzSt1, FzSt2, FzRg, FzBo3, FzBo4, FzBo5, FzBo6, FzBo7, FzBo8. -/
import Derived.ChangeKeysEq
import Derived.Laws.AppendOwn
import Derived.Laws.Cells
import Derived.Laws.CopyRow
import Derived.Laws.Entries
import Derived.Laws.NewFold
import Derived.Laws.Sem
import Derived.Laws.Small
import Derived.Laws.StructEq
import Derived.Laws.Tables
import Derived.Laws.World
import Derived.OrdersHeld
import Derived.OrdersIn
import Derived.RangeFuncLeaves
import Derived.RangeFuncRecord
import Derived.Test.YtpefamheopplnaaMf0
import Derived.Test.YtpefamheopplnaaMf1
import Derived.Test.YtpefamheopplnaaMf2
import Derived.Test.YtpefamheopplnaaMf3
import Derived.Shelf.Abstract
import Derived.Test.YtpefamheopplnaaMf4
import Derived.Test.YtpefamheopplnaaMf5
import Derived.Test.YtpefamheopplnaaProg
import Derived.Test.YtpefamheopplnaaMf6
import Derived.DeepKeys4
import Derived.Laws.Cover3
import Derived.Maps.Keyed
import Derived.Maps.RangeRun
import Derived.Test.YtpefamheopplnaaMf8
import Derived.Test.YtpefamheopplnaaMf12
import Derived.Test.YtpefamheopplnaaMf13
import Derived.Test.YtpefamheopplnaaMf14
import Derived.Test.YtpefamheopplnaaMf9
import Derived.Test.YtpefamheopplnaaMf10
import Derived.Test.YtpefamheopplnaaMf11
import Derived.Test.YtpefamheopplnaaMf16
import Derived.Test.YtpefamheopplnaaMf18
import Derived.Test.YtpefamheopplnaaMf15
import Derived.Test.YtpefamheopplnaaMf19
import Derived.Test.YtpefamheopplnaaMf20
import Derived.Test.YtpefamheopplnaaMf21
import Derived.Test.YtpefamheopplnaaMf22
import Derived.Test.YtpefamheopplnaaMf7
import Derived.Test.YtpefamheopplnaaMf23
import Derived.Test.YtpefamheopplnaaMf24
import Derived.Test.YtpefamheopplnaaMf25
import Derived.Test.YtpefamheopplnaaMf28
set_option linter.unusedVariables false
set_option linter.unusedSimpArgs false
namespace Go.Fz
theorem Below.sl {n id off len sz:Nat}{ex:Bool}(h:id < n) : Below n (.sl id off len sz ex) := fun φ _ hv => by
  cases hv with
  | sl _ _ _ _ _ cap h1 h2 h3 h4 => exact .sl (φ:=⟨φ.f,n,φ.z⟩) id off len sz ex cap h h2 h3 h4
variable {P:Program}{T:Ti}
end Go.Fz
namespace Go.Fz
open Go.Proofs
theorem en3 : Enters Try.prog 3 := fun args w => Go.Proofs.enters_of Try.func3 (by kernel_rfl) rfl args w
theorem en21 : Enters Try.prog 21 := fun args w => Go.Proofs.enters_of Try.func21 (by kernel_rfl) rfl args w
theorem en22 : Enters Try.prog 22 := fun args w => Go.Proofs.enters_of Try.func22 (by kernel_rfl) rfl args w
theorem en36 : Enters Try.prog 36 := fun args w => Go.Proofs.enters_of Try.func36 (by kernel_rfl) rfl args w
theorem en71 : Enters Try.prog 71 := fun args w => Go.Proofs.enters_of Try.func71 (by kernel_rfl) rfl args w
theorem en72 : Enters Try.prog 72 := fun args w => Go.Proofs.enters_of Try.func72 (by kernel_rfl) rfl args w
end Go.Fz
namespace Go.Fz
open Go.Proofs
set_option maxRecDepth 100000
set_option linter.unusedVariables false
theorem empty71_ok : Pure Try.prog 71 [] (rangeV 1099511627776 (-1099511627776)) := by
  obtain ⟨O,hO⟩ : ∃ O : Ar,O = std := ⟨_,rfl⟩
  refine pure_of_body tok 3 Try.func71 en71 rfl trivial rangeV_below ?_
  refine SW.seqRun tok hO (by cbv<;>rfl) (by trivial) ?_
  refine SW.seqRun tok hO (by cbv<;>rfl) (by trivial) ?_
  exact SW.ret ⟨_,_,rfl,rfl,Eqv.of rfl⟩
theorem wider72_ok (lo hi n:Int) : Pure Try.prog 72 [rangeV lo hi,iV n] (rangeV (std.mn lo n) (std.mx hi n)) := by
  obtain ⟨O,hO⟩ : ∃ O : Ar,O = std := ⟨_,rfl⟩
  rw [show std = O from hO.symm]
  refine pure_of_body tok 3 Try.func72 en72 rfl ⟨rangeV_below,Below.lit,trivial⟩ rangeV_below ?_
  refine SW.seqRun tok hO (by cbv<;>rfl) (by trivial) ?_
  refine SW.seqRun tok hO (by cbv<;>rfl) (by trivial) ?_
  exact SW.ret ⟨_,_,rfl,rfl,Eqv.of rfl⟩
theorem to70_ok (lo hi:Int) : Pure Try.prog 70 [rangeV lo hi] (rangeV lo hi) := by
  obtain ⟨O,hO⟩ : ∃ O : Ar,O = std := ⟨_,rfl⟩
  refine pure_of_body tok 3 Try.func70 en70 rfl ⟨rangeV_below,trivial⟩ rangeV_below ?_
  refine SW.seqRun tok hO (by cbv<;>rfl) (by trivial) ?_
  refine SW.seqRun tok hO (by cbv<;>rfl) (by trivial) ?_
  exact SW.ret ⟨_,_,rfl,rfl,Eqv.of rfl⟩
set_option maxHeartbeats 16000000 in
theorem ranges36_ok (n:Nat)(lo hi:Nat→Int)(hn:n < 1000) : Pure Try.prog 36 [.isl n 2 false (rngC lo hi),.isl n 2 false (rngC lo hi)] (.lit (.bool true)) := by
  obtain ⟨O,hO⟩ : ∃ O : Ar,O = std := ⟨_,rfl⟩
  have hnat : ∀ i : Nat,O.nat (Int.ofNat i) = i := fun i => by subst hO;rfl
  have hne : O.cmp .neq (Int.ofNat n) (Int.ofNat n) = false := by subst hO;simp [std]
  refine pure_of_body tok 3 Try.func36 en36 rfl ⟨Below.isl fun i j _ _ => rngC_below _ _ i j,Below.isl fun i j _ _ => rngC_below _ _ i j,trivial⟩ Below.lit ?_
  refine SW.seqRun tok hO (by cbv<;>rfl) (by trivial) ?_
  refine SW.seq ?_
  refine SW.seqRun tok hO (by cbv<;>rfl) (by trivial) ?_
  refine SW.condS (by cbv<;>rfl) (fun h => absurd (show false = true from hne.symm.trans h) (by decide)) (fun _ => SW.skip ?_)
  refine SW.seq ?_
  refine SW.seqRun tok hO (by cbv<;>rfl) (by trivial) ?_
  refine (SW.block (SW.loopF (fun i:Nat => ⟨⟨27,getT [(0,.isl n 2 false (rngC lo hi)),(1,.isl n 2 false (rngC lo hi)),(5,iV (Int.ofNat i))]⟩,[]⟩) (fun _ => ⟨[],0⟩) (fun i => n - i) (fun i => i ≤ n) 0
    (fun _ => rfl) (Nat.zero_le _) (Weak.by rfl rfl (by simp) (Nat.le_refl _) (Nat.le_refl _) ⟨⟨rfl,.inl rfl⟩,⟨rfl,.inl rfl⟩,⟨rfl,.inl rfl⟩,trivial⟩ trivial) fun i hle => ?_))
  refine SW.seq ?_
  refine SW.seqRun tok hO (by cbv<;>rfl) (by trivial) ?_
  refine SW.condS (by cbv<;>rfl) (fun h => SW.skip ?_) (fun h => SW.exit ?_)
  · have hlt : i < n := by
      have : (Int.ofNat i : Int) < Int.ofNat n := by subst hO;simpa [std] using h
      exact Int.ofNat_lt.1 this
    have hc : 0 ≤ Int.ofNat i ∧ Int.ofNat i < (n:Int) := ⟨Int.natCast_nonneg i,Int.ofNat_lt.2 hlt⟩
    have call := to70_ok (lo (O.nat (Int.ofNat i))) (hi (O.nat (Int.ofNat i)))
    refine SW.seq (SW.block ?_)
    refine SW.seqRunD tok mixed hO (by kernel_rfl) (by cbv<;>rfl) (by repeat (first | exact trivial | exact hc | refine ⟨?_,?_⟩)) ?_
    refine AnyE.callP call (by cbv<;>rfl) (by cbv<;>rfl) ?_
    refine AnyE.run tok hO (by rfl) (by cbv<;>rfl) (by trivial) ?_
    first
      | (refine AnyE.dec tok hO (by rfl) (by cbv <;> rfl) (by trivial) (fun h2 => ?_) (fun h2 => ?_)
         · exfalso;subst hO;simp [std] at h2
         refine AnyE.run tok hO (by rfl) (by cbv<;>rfl) (by trivial) ?_
         refine SW.condS (by cbv<;>rfl) (fun h3 => absurd h3 (by decide)) (fun _ => SW.skip ?_))
      | (refine SW.condS (by cbv <;> rfl) (fun h3 => ?_) (fun _ => SW.skip ?_)
         · exfalso;subst hO;simp [std] at h3)
    refine SW.run tok hO (by cbv<;>rfl) (by trivial) ?_
    exact ⟨i + 1,by omega,hlt,Weak.by rfl rfl (by simp) (Nat.le_refl _) (Nat.le_refl _) ⟨⟨rfl,.inl rfl⟩,⟨rfl,.inl rfl⟩,⟨inc_ok hO (by omega),.inl rfl⟩,trivial⟩ trivial⟩
  · refine SW.seqRun tok hO (by cbv <;> rfl) (by trivial) ?_
    exact SW.ret ⟨_,_,rfl,rfl,Eqv.of rfl⟩
theorem ranges36_nil : Pure Try.prog 36 [nl3,nl3] (.lit (.bool true)) := (ranges36_ok 0 (fun _ => 0) (fun _ => 0) (by omega)).eqv (.cons Eqv.nil (.cons Eqv.nil .nil))
end Go.Fz
namespace Go.Fz
open Go.Proofs
set_option maxRecDepth 100000
section
variable {P:Program}{T:Ti}
end
end Go.Fz
namespace Go.Fz
open Go.Proofs
set_option maxRecDepth 100000
set_option linter.unusedVariables false
section
variable {P:Program}
end
end Go.Fz
namespace Go.Fz
open Go.Proofs
set_option maxRecDepth 100000
set_option linter.unusedVariables false
end Go.Fz
namespace Go.Fz
open Go.Proofs
set_option maxRecDepth 100000
set_option linter.unusedVariables false
end Go.Fz
namespace Go.Fz
open Go.Proofs
set_option maxRecDepth 100000
set_option linter.unusedVariables false
end Go.Fz
namespace Go.Fz
open Go.Proofs
set_option maxRecDepth 100000
set_option linter.unusedVariables false
end Go.Fz
namespace Go.Fz
open Go.Proofs
set_option maxRecDepth 100000
set_option linter.unusedVariables false
theorem val_loose (d:DayD) : d.Val (fun t => (d.tally t).loose) := fun t u h1 h2 hf hs => by show (d.tally t).loose = (d.tally u).loose;unfold DayD.tally;simp only [all_same h1 h2 hf hs]
theorem val_spare (d:DayD) : d.Val (fun t => (d.tally t).spare) := fun t u h1 h2 hf hs => by show (d.tally t).spare = (d.tally u).spare;unfold DayD.tally;simp only [all_same h1 h2 hf hs]
theorem sel_in {d:DayD}(hc:d.check = 0){V:TruD→Int}(hV:d.Val V){k:Nat}(hk:k < d.sN) : mnF (fun i => V (d.tr i)) d.oN ≤ V (d.sT k) ∧ V (d.sT k) ≤ mxF (fun i => V (d.tr i)) d.oN := by
  obtain ⟨i,hi,e⟩ := (val_sel hc hV _).2 ⟨k,hk,rfl⟩
  rw [← e]
  exact ⟨mnF_le (V:=fun i => V (d.tr i)) hi,mxF_ge (V:=fun i => V (d.tr i)) hi⟩
end Go.Fz
namespace Go.Fz
open Go.Proofs
set_option maxRecDepth 100000
set_option linter.unusedVariables false
end Go.Fz
namespace Go.Fz
open Go.Proofs
set_option maxRecDepth 100000
variable {d x:DayD}
end Go.Fz
namespace Go.Fz
open Go.Proofs
set_option maxRecDepth 100000
set_option linter.unusedVariables false
end Go.Fz
namespace Go.Fz
open Go.Proofs
set_option maxRecDepth 100000
set_option linter.unusedVariables false
section
variable {d:DayD}{x:List Nat}{fe:Nat→Int}
end
end Go.Fz
namespace Go.Fz
open Go.Proofs
set_option maxRecDepth 100000
set_option linter.unusedVariables false
section
variable {P:Program}{T:Ti}
end
end Go.Fz
namespace Go.Fz
open Go.Proofs
set_option maxRecDepth 100000
set_option linter.unusedVariables false
section
variable {P:Program}{T:Ti}
def stAt (O:Ar)(T:Ti)(ops:Array Oper)(h:Hp)(f:Fm)(i:Nat) : Option (List Cond × AV) := match ops[i]? with
  | some o => match wantA ops f.ts o with
    | some true => stE O T h (Operand.av f.ts) o
    | some false => some ([],undA)
    | none => none
  | none => none
theorem stAt_light {O:Ar}(hO:O = std){ops:Array Oper}{h:Hp}{f:Fm}{i:Nat}{cs:List Cond}{r:AV}(hs:stAt O T ops h f i = some (cs,r))(hc:allC cs) : lightV T ops h f i = some r := by
  subst hO
  unfold stAt at hs
  unfold lightV
  split at hs
  · rename_i o ho
    rw [ho]
    simp only
    split at hs
    · rename_i hw;rw [hw];exact stE_ok hs (allC_ok hc)
    · rename_i hw;rw [hw];cases hs;rfl
    · cases hs
  · cases hs
theorem AnyE.tkO {ops:Array Oper}{M:List Nat}{rd:Option Nat}{K:Fm→St→Prop}{fuel:Nat}{pend:List (Nat × AV)}{f:Fm}{st:St}(hM:tidyB ops M = true)(hT:TOk P T){O:Ar}(hO:O = std){n m:Nat}(i d m':Nat){cs:List Cond}{r0 r:AV}
    (hb:tkB ops pend (lsB n m) i d = true)(hs:(lsB n m).setIfInBounds i true = lsB n m')(hl:stAt O T ops st.h f i = some (cs,r0))(hc:allC cs)(he:Eqv r0 r)
    (H:AnyE P T ops M rd K fuel ((i,r) :: pend) (lsB n m') (f.put (some d) r) st) : AnyE P T ops M rd K (fuel + 1) pend (lsB n m) f st :=
  AnyE.tk hM hT i d m' hb hs (stAt_light hO hl hc) he H
theorem AnyE.cp {rd:Option Nat}{ops:Array Oper}{M:List Nat}{K:Fm→St→Prop}{fuel:Nat}{pend pend':List (Nat × AV)}{f:Fm}{st:St}{n m:Nat}{g:FuncId}{args:List AV}{r:AV}(hp:Pure P g args r)(j d m':Nat)
    (hq:Region.ready .any ops (lsB n m) = [j])(hd:dropP M j pend = pend')(hc:callAt ops j f = some (g,args))(hs:(lsB n m).setIfInBounds j true = lsB n m')(hf:putAt ops j f r = f.put (some d) r)(hk:AllP (fun p => lightV T ops st.h (putAt ops j f r) p.1 = some p.2) pend')
    (h:AnyE P T ops M rd K fuel pend' (lsB n m') (f.put (some d) r) st) : AnyE P T ops M rd K (fuel + 1) pend (lsB n m) f st :=
  AnyE.many [j] hq rfl ⟨PickE.callQ hp hd hc hk (by rw [hs,hf];exact h),trivial⟩
def nlB (ops:Array Oper)(M:List Nat)(pend:List (Nat × AV))(j:Nat) : Bool := match ops[j]? with
  | some o => noLookB ops (dropP M j pend) o
  | none => false
theorem AnyE.cpN {rd:Option Nat}{ops:Array Oper}{M:List Nat}{K:Fm→St→Prop}{fuel:Nat}{pend pend':List (Nat × AV)}{f:Fm}{st:St}{n m:Nat}{g:FuncId}{args:List AV}{r:AV}(hp:Pure P g args r)(j d m':Nat)
    (hq:Region.ready .any ops (lsB n m) = [j])(hn:nlB ops M pend j = true)(hd:dropP M j pend = pend')(hc:callAt ops j f = some (g,args))(hs:(lsB n m).setIfInBounds j true = lsB n m')(hf:putAt ops j f r = f.put (some d) r)
    (h:AnyE P T ops M rd K fuel pend' (lsB n m') (f.put (some d) r) st) : AnyE P T ops M rd K (fuel + 1) pend (lsB n m) f st := by
  refine AnyE.callP hp ?_ hc (by rw [hs,hf];exact h)
  unfold nlB at hn
  unfold onlyD
  rw [hq]
  simp only
  split at hn
  · rename_i o ho
    subst hd
    simp only [ho,hn]
  · cases hn
theorem idx_light {ops:Array Oper}{h:Hp}{f:Fm}{i t id off len sz n:Nat}{ex:Bool}{k:IntKind}(hx:idxAt ops i f = some (t,.sl id off len sz ex,.lit (.int k (Int.ofNat n))))(hb:sliceB T t sz = true)(hn:n < len) : lightV T ops h f i = some (.ptr id (off + n * sz)) := by
  obtain ⟨ti,tj,e,h1,h2,h3,h4,h5,h6,h7,h8⟩ := sliceB_ok hb
  unfold idxAt at hx
  split at hx
  · cases hx
  · rename_i o ho
    split at hx
    · rename_i hw
      split at hx
      · rename_i t' x ix hop
        simp only [Option.some.injEq,Prod.mk.injEq] at hx
        obtain ⟨rfl,k2,k3⟩ := hx
        simp only [Fz.lightV,ho,hw,evG,evL,hop,k2,k3,h1,h2,h3]
        rw [if_pos ⟨Int.natCast_nonneg n,Int.ofNat_lt.2 hn,h4⟩]
        rfl
      · cases hx
    · cases hx
theorem ld_light {ops:Array Oper}{h:Hp}{f:Fm}{i t:Nat}{p r:AV}(hx:ldAt ops i f = some (t,p))(hr:loadA T h t p = some r) : lightV T ops h f i = some r := by
  unfold ldAt at hx
  split at hx
  · cases hx
  · rename_i o ho
    split at hx
    · rename_i hw
      split at hx
      · rename_i t' p' hop
        simp only [Option.some.injEq,Prod.mk.injEq] at hx
        obtain ⟨rfl,rfl⟩ := hx
        simp only [Fz.lightV,ho,hw,evG,evL,hop,hr]
      · cases hx
    · cases hx
theorem AnyE.efB (hT:TOk P T){O:Ar}(hO:O = std){rd:Option Nat}{ops:Array Oper}{M:List Nat}{K:Fm→St→Prop}{fuel:Nat}{pend pend':List (Nat × AV)}{f f':Fm}{st st':St}{n m:Nat}(j m':Nat){cs:List Cond}
    (hr:Region.ready .any ops (lsB n m) = [j])(hd:dropP M j pend = pend')(hR:runO O T ops [j] [] f st = .done cs f' st')(hc:allC cs)(hs:(lsB n m).setIfInBounds j true = lsB n m')(hk:AllP (fun p => lightV T ops st'.h f' p.1 = some p.2) pend')(h:AnyE P T ops M rd K fuel pend' (lsB n m') f' st') :
    AnyE P T ops M rd K (fuel + 1) pend (lsB n m) f st := AnyE.many [j] hr rfl ⟨PickE.eff hT hO hd hR hc hk (by rw [hs];exact h),trivial⟩
def pairB (T:Ti)(t:TypeId) : Bool := match T t with
  | some i => aggD i.desc && Nat.beq i.size 2
  | none => false
theorem load_at2 {t:TypeId}{h:Hp}{id off:Nat}{fm:Option Nat}{ro:Bool}{cs:List AV}{u v:AV}(hs:pairB T t = true)(hg:h.get id = some (.cells fm ro cs))(h0:cs[off]? = some u)(h1:cs[off + 1]? = some v) : loadA T h t (.ptr id off) = some (.agg [u,v]) := by
  unfold pairB at hs
  split at hs
  · rename_i i hi
    rw [Bool.and_eq_true] at hs
    have hz := Nat.eq_of_beq_eq_true hs.2
    have hl : off + 1 < cs.length := (List.getElem?_eq_some_iff.1 h1).1
    simp only [loadA,ptrOf,cellsAt,hg,partA,hi]
    rw [if_pos hs.1,hz,if_pos (by omega)]
    have h2 : cs.drop off = u :: v :: cs.drop (off + 2) := by
      rw [List.drop_eq_getElem_cons (by omega:off < cs.length),List.drop_eq_getElem_cons hl]
      rw [(List.getElem?_eq_some_iff.1 h0).2,(List.getElem?_eq_some_iff.1 h1).2]
    rw [h2]
    rfl
  · cases hs
theorem AnyE.sd (hT:TOk P T){rd:Option Nat}{ops:Array Oper}{M:List Nat}{K:Fm→St→Prop}{fuel:Nat}{pend pend':List (Nat × AV)}{f:Fm}{st:St}{n m t id off:Nat}{u v:Int}{G:List AV}(j m':Nat)
    (hq:Region.ready .any ops (lsB n m) = [j])(hd:dropP M j pend = pend')(ha:stoAt ops j f = some (t,.ptr id off,.agg [iV u,iV v]))(hb:sizeB T t 2 = true)(hx:st.h.get id = some (.cells none false G))(hl:off + 2 ≤ G.length)(hs:(lsB n m).setIfInBounds j true = lsB n m')(hf:putAt ops j f undA = f)
    (h:∀ G',G' = (G.set off (iV u)).set (off + 1) (iV v)→AllP (fun p => lightV T ops (st.h.set id (.cells none false G')) f p.1 = some p.2) pend' ∧ AnyE P T ops M rd K fuel pend' (lsB n m') f ⟨st.h.set id (.cells none false G'),st.n⟩) : AnyE P T ops M rd K (fuel + 1) pend (lsB n m) f st := fun k1 k2 k3 => by
  obtain ⟨hk,h⟩ := h _ rfl
  unfold stoAt at ha
  split at ha
  · cases ha
  · rename_i o ho
    split at ha
    · rename_i hw
      split at ha
      · rename_i t' p x hop
        simp only [Option.some.injEq,Prod.mk.injEq] at ha
        obtain ⟨rfl,e2,e3⟩ := ha
        have hput : ∀ v,putAt ops j f v = f.put o.dst v := fun v => by simp [putAt,ho]
        rw [hput] at hf
        have hst : storeO T st (Operand.av f.ts) o = some ⟨st.h.set id (.cells none false ((G.set off (iV u)).set (off + 1) (iV v))),st.n⟩ := by
          unfold sizeB at hb
          split at hb
          · rename_i ti hti
            have hsz := Nat.eq_of_beq_eq_true hb
            have h1 : (AV.agg [iV u,iV v]).cells = [iV u,iV v] := rfl
            have h2 : ∀ z : Int,(iV z).one = true := fun _ => rfl
            have h3 : ∀ z : Int,(iV z).norm = iV z := fun _ => rfl
            simp only [storeO,hop,storeA,e2,e3,ptrOf,hti,hx,h1,hsz,List.length_cons,List.length_nil,List.map_cons,List.map_nil,h3,List.all_cons,h2,List.all_nil]
            rw [if_pos ⟨trivial,by omega,by simp,by omega⟩]
            rfl
          · cases hb
        refine AnyE.one j ho (by rw [hq];exact Nat.beq_refl j) pend' hd (OpsW.store hT ho hw hst (.nil ⟨⟨undA,rfl⟩,?_,?_⟩)) k1 k2 k3
        · rw [hf];exact fun p hpm => LV.of (hk.ok p hpm)
        · rw [hf,hs];exact h
      · cases ha
    · cases ha
end
end Go.Fz
namespace Go.Fz
open Go.Proofs
set_option maxRecDepth 100000
set_option linter.unusedVariables false
def cL : Code→Code
  | .seq a _ => a
  | c => c
def cR : Code→Code
  | .seq _ b => b
  | c => c
def cB : Code→Code
  | .block _ c => c
  | c => c
def cP : Code→Code
  | .loop c => c
  | c => c
noncomputable def bX3 : Code := cR (cR (cR (bodyF Try.f22)))
noncomputable def bL2 : Code := cP (cB (cR (cL (bX3))))
noncomputable def bB3 : Code := cB (cL (cR bL2))
noncomputable def bL4 : Code := cP (cB (cR (cL (cR bB3))))
noncomputable def bL1 : Code := cP (cB (cR (cL (cR (cR (bodyF Try.f22))))))
noncomputable def b13P : {a:Array Oper // cB (cL (cR bL4)) = .region 13 a true} := ⟨_,by rfl⟩
noncomputable def b13 : Array Oper := b13P.1
def b13M : List Nat := [0,1,0,0,8,0,0,64,0,0,512,0,3584,7680,0,0,49152,114688,245760,0,1032192,2080768,4193792,0,8388608,0,58720256,125829120,0,268435456,0,1879048192,4026531840,8589934080,0,17179869184,0,120259084288,257698037760,0,549755813888,0,3848290697216,8246337208320,17592186043904,35184372088327,70368744177159,140737488354879,281474976710207,562949953421311,1125899906842623]
theorem b13_tidy : tidyB b13 b13M = true := by kernel_rfl
theorem b13_size : b13.size = 51 := by kernel_rfl
def bndO (nw:Nat)(x y z:Bool)(p q r s t u v w:Int) : List AV := [.sl 3 0 nw 2 x,.sl 4 0 nw 2 y,.sl 5 0 nw 2 z,iV p,iV q,iV r,iV s,iV t,iV u,iV v,iV w]
def boS (d:DayD)(nw:Nat)(x y z:Bool)(p q r s t u v w:Int)(G0 G1 G2 R:List AV) : Hp := [(5,.cells none false G2),(4,.cells none false G1),(3,.cells none false G0),(2,.cells none false (bndO nw x y z p q r s t u v w)),(1,.cells none false R),(0,.cells none false (dayC d))]
def boL (V:AV)(k i:Nat) : List (Nat × AV) := [(1,V),(2,.ptr 0 0),(4,.ptr 1 0),(5,.ptr 2 0),(7,iV (Int.ofNat k)),(8,.ptr 6 0),(9,iV (Int.ofNat i))]
theorem midK.mk {len:Nat}{l:List (Nat × AV)}{S st:St}{f:Fm}(h1:f.ts.len = len)(h2:f.dm = [])(h3:AllP (fun p => f.ts.get p.1 = p.2) l)(h4:st = S) : midK len l S .normal f st := by
  obtain ⟨⟨n,g⟩,dm⟩ := f
  simp only at h1 h2
  subst h1;subst h2
  exact ⟨rfl,g,rfl,h3,h4⟩
set_option maxHeartbeats 64000000 in
theorem bo_13 (d:DayD)(nw nl M:Nat)(F S:Nat→Nat→Int)(k i:Nat)(hk:k < M)(hi:i < nw)(x y z:Bool)(p q r s t u v w:Int)(G0 G1 G2 R:List AV)(bu le:Nat→Int)(hh ll ff ss:Int)(l0 h0 l1 h1 l2 h2 u0 v0 u1 v1 u2 v2:Int)
    (a0:G0[0 + i * 2]? = some (iV l0))(b0:G0[0 + i * 2 + 1]? = some (iV h0))(a1:G1[0 + i * 2]? = some (iV l1))(b1:G1[0 + i * 2 + 1]? = some (iV h1))(a2:G2[0 + i * 2]? = some (iV l2))(b2:G2[0 + i * 2 + 1]? = some (iV h2))
    (c0:Pure Try.prog 72 [rangeV l0 h0,iV (F k i)] (rangeV u0 v0))(c1:Pure Try.prog 72 [rangeV l1 h1,iV (bu i)] (rangeV u1 v1))(c2:Pure Try.prog 72 [rangeV l2 h2,iV (le i)] (rangeV u2 v2))(g:Nat→AV)(hg:AllP (fun p => g p.1 = p.2) (boL (trsV M nw nl F S) k i)) :
    SW Try.prog none (.region 13 b13 true) (midK 132 (boL (trsV M nw nl F S) k i) ⟨(6,.cells none false [intsV nw false bu,intsV nw false le,iV hh,iV ll,iV ff,iV ss]) :: boS d nw x y z p q r s t u v w ((G0.set (0 + i * 2) (iV u0)).set (0 + i * 2 + 1) (iV v0)) ((G1.set (0 + i * 2) (iV u1)).set (0 + i * 2 + 1) (iV v1)) ((G2.set (0 + i * 2) (iV u2)).set (0 + i * 2 + 1) (iV v2)) R,7⟩)
      ⟨⟨132,g⟩,[]⟩ ⟨(6,.cells none false [intsV nw false bu,intsV nw false le,iV hh,iV ll,iV ff,iV ss]) :: boS d nw x y z p q r s t u v w G0 G1 G2 R,7⟩ := by
  obtain ⟨O,hO⟩ : ∃ O : Ar,O = std := ⟨_,rfl⟩
  have hnat : ∀ i : Nat,O.nat (Int.ofNat i) = i := fun i => by subst hO;rfl
  have hcM : 0 ≤ Int.ofNat k ∧ Int.ofNat k < (M:Int) := ⟨Int.natCast_nonneg k,Int.ofNat_lt.2 hk⟩
  have hcw : 0 ≤ Int.ofNat i ∧ Int.ofNat i < (nw:Int) := ⟨Int.natCast_nonneg i,Int.ofNat_lt.2 hi⟩
  have hl0 : 0 + i * 2 + 2 ≤ G0.length := (List.getElem?_eq_some_iff.1 b0).1
  have hl1 : 0 + i * 2 + 2 ≤ G1.length := (List.getElem?_eq_some_iff.1 b1).1
  have hl2 : 0 + i * 2 + 2 ≤ G2.length := (List.getElem?_eq_some_iff.1 b2).1
  rw [show F k i = F (O.nat (Int.ofNat k)) (O.nat (Int.ofNat i)) by rw [hnat,hnat]] at c0
  rw [show bu i = bu (O.nat (Int.ofNat i)) by rw [hnat]] at c1
  rw [show le i = le (O.nat (Int.ofNat i)) by rw [hnat]] at c2
  obtain ⟨g1,g2,g4,g5,g7,g8,g9,_⟩ := hg
  simp only at g1 g2 g4 g5 g7 g8 g9
  rw [← updT_self g1,← updT_self g2,← updT_self g4,← updT_self g5,← updT_self g7,← updT_self g8,← updT_self g9]
  refine SW.drawnB tok (M:=b13M) mixed 51 b13_tidy b13_size (by kernel_rfl) ?_
  refine AnyE.tkO b13_tidy tok hO 0 59 1 (by kernel_rfl) (by kernel_rfl) (by cbv<;>rfl) (by trivial) (Eqv.refl _) ?_
  refine AnyE.tkO b13_tidy tok hO 1 60 3 (by kernel_rfl) (by kernel_rfl) (by cbv<;>rfl) (by trivial) (Eqv.refl _) ?_
  refine AnyE.tkO b13_tidy tok hO 2 61 7 (by kernel_rfl) (by kernel_rfl) (by cbv<;>rfl) (by trivial) (Eqv.refl _) ?_
  refine AnyE.tkO b13_tidy tok hO 3 62 15 (by kernel_rfl) (by kernel_rfl) (by cbv<;>rfl) (by trivial) (Eqv.refl _) ?_
  refine AnyE.tkO b13_tidy tok hO 4 63 31 (by kernel_rfl) (by kernel_rfl) (by cbv<;>rfl) (by trivial) (Eqv.refl _) ?_
  refine AnyE.tkO b13_tidy tok hO 5 64 63 (by kernel_rfl) (by kernel_rfl) (by cbv<;>rfl) (by trivial) (Eqv.refl _) ?_
  refine AnyE.tkO b13_tidy tok hO 6 65 127 (by kernel_rfl) (by kernel_rfl) (by cbv<;>rfl) (by trivial) (Eqv.refl _) ?_
  refine AnyE.tkO b13_tidy tok hO 7 66 255 (by kernel_rfl) (by kernel_rfl) (by cbv<;>rfl) (by trivial) (Eqv.refl _) ?_
  refine AnyE.tkO b13_tidy tok hO 8 67 511 (by kernel_rfl) (by kernel_rfl) (by cbv<;>rfl) (by trivial) (Eqv.refl _) ?_
  refine AnyE.tkO b13_tidy tok hO 9 68 1023 (by kernel_rfl) (by kernel_rfl) (by cbv<;>rfl) (by trivial) (Eqv.refl _) ?_
  refine AnyE.tkO b13_tidy tok hO 10 69 2047 (by kernel_rfl) (by kernel_rfl) (by cbv<;>rfl) (by trivial) (Eqv.refl _) ?_
  refine AnyE.tkO b13_tidy tok hO 11 70 4095 (by kernel_rfl) (by kernel_rfl) (by cbv<;>rfl) (by trivial) (Eqv.refl _) ?_
  refine AnyE.tk b13_tidy tok 12 71 8191 (by kernel_rfl) (by kernel_rfl) (idx_light (n:=i) (by cbv<;>rfl) (by kernel_rfl) hi) (Eqv.refl _) ?_
  refine AnyE.tk b13_tidy tok 13 72 16383 (by kernel_rfl) (by kernel_rfl) (ld_light (by cbv<;>rfl) (load_at2 (by kernel_rfl) (by rfl) a0 b0)) (Eqv.refl _) ?_
  refine AnyE.tkO b13_tidy tok hO 14 73 32767 (by kernel_rfl) (by kernel_rfl) (by cbv<;>rfl) (by trivial) (Eqv.refl _) ?_
  refine AnyE.tkO b13_tidy tok hO 15 74 65535 (by kernel_rfl) (by kernel_rfl) (by cbv<;>rfl) (by trivial) (Eqv.refl _) ?_
  refine AnyE.tkO b13_tidy tok hO 16 75 131071 (by kernel_rfl) (by kernel_rfl) (by cbv<;>rfl) (by repeat (first | exact trivial | exact hcM | refine ⟨?_,?_⟩)) (Eqv.refl _) ?_
  refine AnyE.tkO b13_tidy tok hO 17 76 262143 (by kernel_rfl) (by kernel_rfl) (by cbv<;>rfl) (by trivial) (Eqv.refl _) ?_
  refine AnyE.tkO b13_tidy tok hO 18 77 524287 (by kernel_rfl) (by kernel_rfl) (by cbv<;>rfl) (by trivial) (Eqv.refl _) ?_
  refine AnyE.tkO b13_tidy tok hO 19 78 1048575 (by kernel_rfl) (by kernel_rfl) (by cbv<;>rfl) (by trivial) (Eqv.refl _) ?_
  refine AnyE.tkO b13_tidy tok hO 20 79 2097151 (by kernel_rfl) (by kernel_rfl) (by cbv<;>rfl) (by repeat (first | exact trivial | exact hcw | refine ⟨?_,?_⟩)) (Eqv.refl _) ?_
  refine AnyE.tkO b13_tidy tok hO 21 80 4194303 (by kernel_rfl) (by kernel_rfl) (by cbv<;>rfl) (by trivial) (Eqv.refl _) ?_
  refine AnyE.tkO b13_tidy tok hO 23 82 12582911 (by kernel_rfl) (by kernel_rfl) (by cbv<;>rfl) (by trivial) (Eqv.refl _) ?_
  refine AnyE.tkO b13_tidy tok hO 24 83 29360127 (by kernel_rfl) (by kernel_rfl) (by cbv<;>rfl) (by trivial) (Eqv.refl _) ?_
  refine AnyE.tkO b13_tidy tok hO 25 84 62914559 (by kernel_rfl) (by kernel_rfl) (by cbv<;>rfl) (by trivial) (Eqv.refl _) ?_
  refine AnyE.tk b13_tidy tok 26 85 130023423 (by kernel_rfl) (by kernel_rfl) (idx_light (n:=i) (by cbv<;>rfl) (by kernel_rfl) hi) (Eqv.refl _) ?_
  refine AnyE.tk b13_tidy tok 27 86 264241151 (by kernel_rfl) (by kernel_rfl) (ld_light (by cbv<;>rfl) (load_at2 (by kernel_rfl) (by rfl) a1 b1)) (Eqv.refl _) ?_
  refine AnyE.tkO b13_tidy tok hO 28 87 532676607 (by kernel_rfl) (by kernel_rfl) (by cbv<;>rfl) (by trivial) (Eqv.refl _) ?_
  refine AnyE.tkO b13_tidy tok hO 29 88 1069547519 (by kernel_rfl) (by kernel_rfl) (by cbv<;>rfl) (by trivial) (Eqv.refl _) ?_
  refine AnyE.tkO b13_tidy tok hO 30 89 2143289343 (by kernel_rfl) (by kernel_rfl) (by cbv<;>rfl) (by trivial) (Eqv.refl _) ?_
  refine AnyE.tkO b13_tidy tok hO 31 90 4290772991 (by kernel_rfl) (by kernel_rfl) (by cbv<;>rfl) (by repeat (first | exact trivial | exact hcw | refine ⟨?_,?_⟩)) (Eqv.refl _) ?_
  refine AnyE.tkO b13_tidy tok hO 32 91 8585740287 (by kernel_rfl) (by kernel_rfl) (by cbv<;>rfl) (by trivial) (Eqv.refl _) ?_
  refine AnyE.tkO b13_tidy tok hO 34 93 25765609471 (by kernel_rfl) (by kernel_rfl) (by cbv<;>rfl) (by trivial) (Eqv.refl _) ?_
  refine AnyE.tkO b13_tidy tok hO 35 94 60125347839 (by kernel_rfl) (by kernel_rfl) (by cbv<;>rfl) (by trivial) (Eqv.refl _) ?_
  refine AnyE.tkO b13_tidy tok hO 36 95 128844824575 (by kernel_rfl) (by kernel_rfl) (by cbv<;>rfl) (by trivial) (Eqv.refl _) ?_
  refine AnyE.tk b13_tidy tok 37 96 266283778047 (by kernel_rfl) (by kernel_rfl) (idx_light (n:=i) (by cbv<;>rfl) (by kernel_rfl) hi) (Eqv.refl _) ?_
  refine AnyE.tk b13_tidy tok 38 97 541161684991 (by kernel_rfl) (by kernel_rfl) (ld_light (by cbv<;>rfl) (load_at2 (by kernel_rfl) (by rfl) a2 b2)) (Eqv.refl _) ?_
  refine AnyE.tkO b13_tidy tok hO 39 98 1090917498879 (by kernel_rfl) (by kernel_rfl) (by cbv<;>rfl) (by trivial) (Eqv.refl _) ?_
  refine AnyE.tkO b13_tidy tok hO 40 99 2190429126655 (by kernel_rfl) (by kernel_rfl) (by cbv<;>rfl) (by trivial) (Eqv.refl _) ?_
  refine AnyE.tkO b13_tidy tok hO 41 100 4389452382207 (by kernel_rfl) (by kernel_rfl) (by cbv<;>rfl) (by trivial) (Eqv.refl _) ?_
  refine AnyE.tkO b13_tidy tok hO 42 101 8787498893311 (by kernel_rfl) (by kernel_rfl) (by cbv<;>rfl) (by repeat (first | exact trivial | exact hcw | refine ⟨?_,?_⟩)) (Eqv.refl _) ?_
  refine AnyE.tkO b13_tidy tok hO 43 102 17583591915519 (by kernel_rfl) (by kernel_rfl) (by cbv<;>rfl) (by trivial) (Eqv.refl _) ?_
  refine AnyE.cpN c0 22 81 17583596109823 (by kernel_rfl) (by kernel_rfl) (by cbv<;>rfl) (by cbv<;>rfl) (by kernel_rfl) rfl ?_
  refine AnyE.cpN c1 33 92 17592186044415 (by kernel_rfl) (by kernel_rfl) (by cbv<;>rfl) (by cbv<;>rfl) (by kernel_rfl) rfl ?_
  refine AnyE.cpN c2 44 103 35184372088831 (by kernel_rfl) (by kernel_rfl) (by cbv<;>rfl) (by cbv<;>rfl) (by kernel_rfl) rfl ?_
  refine AnyE.tk b13_tidy tok 45 104 70368744177663 (by kernel_rfl) (by kernel_rfl) (idx_light (n:=i) (by cbv<;>rfl) (by kernel_rfl) hi) (Eqv.refl _) ?_
  refine AnyE.sd tok (G:=G0) 46 140737488355327 (by kernel_rfl) (by cbv<;>rfl) (by cbv<;>rfl) (by kernel_rfl) (by kernel_rfl) hl0 (by kernel_rfl) (by kernel_rfl) fun G0' hG0 => ⟨(by repeat (first | exact trivial | refine And.intro (by cbv<;>rfl) ?_)),?_⟩
  refine AnyE.tk b13_tidy tok 47 105 281474976710655 (by kernel_rfl) (by kernel_rfl) (idx_light (n:=i) (by cbv<;>rfl) (by kernel_rfl) hi) (Eqv.refl _) ?_
  refine AnyE.sd tok (G:=G1) 48 562949953421311 (by kernel_rfl) (by cbv<;>rfl) (by cbv<;>rfl) (by kernel_rfl) (by kernel_rfl) hl1 (by kernel_rfl) (by kernel_rfl) fun G1' hG1 => ⟨(by repeat (first | exact trivial | refine And.intro (by cbv<;>rfl) ?_)),?_⟩
  refine AnyE.tk b13_tidy tok 49 106 1125899906842623 (by kernel_rfl) (by kernel_rfl) (idx_light (n:=i) (by cbv<;>rfl) (by kernel_rfl) hi) (Eqv.refl _) ?_
  refine AnyE.sd tok (G:=G2) 50 2251799813685247 (by kernel_rfl) (by cbv<;>rfl) (by cbv<;>rfl) (by kernel_rfl) (by kernel_rfl) hl2 (by kernel_rfl) (by kernel_rfl) fun G2' hG2 => ⟨(by repeat (first | exact trivial | refine And.intro (by cbv<;>rfl) ?_)),?_⟩
  refine AnyE.done (by kernel_rfl) ?_
  rw [← hG0,← hG1,← hG2]
  exact midK.mk (by kernel_rfl) (by kernel_rfl) ⟨(by show _ = _;kernel_rfl),(by show _ = _;kernel_rfl),(by show _ = _;kernel_rfl),(by show _ = _;kernel_rfl),(by show _ = _;kernel_rfl),(by show _ = _;kernel_rfl),(by show _ = _;kernel_rfl),trivial⟩ (by kernel_rfl)
end Go.Fz
namespace Go.Fz
open Go.Proofs
set_option maxRecDepth 100000
set_option linter.unusedVariables false
noncomputable def b14P : {a:Array Oper // cR (cR bB3) = .region 14 a true} := ⟨_,by rfl⟩
noncomputable def b14 : Array Oper := b14P.1
def b14M : List Nat := [0,1,0,4,15,0,32,0,128,511,0,1024,0,4096,16383,0,32768,0,131072,524287,101503,2097151,4194303,8388607,16777215,33554431,67108863,134217727]
theorem b14_tidy : tidyB b14 b14M = true := by kernel_rfl
theorem b14_size : b14.size = 28 := by kernel_rfl
def boL2 (V:AV)(k:Nat) : List (Nat × AV) := [(1,V),(2,.ptr 0 0),(4,.ptr 1 0),(5,.ptr 2 0),(7,iV (Int.ofNat k))]
set_option maxHeartbeats 64000000 in
theorem bo_14 (d:DayD)(nw:Nat)(V:AV)(k:Nat)(x y z:Bool)(p q r s t u v w:Int)(G0 G1 G2 R:List AV)(bu le:Nat→Int)(hh ll ff ss:Int)(m0 n0 m1 n1 m2 n2 m3 n3:Int)
    (c0:Pure Try.prog 72 [rangeV p q,iV hh] (rangeV m0 n0))(c1:Pure Try.prog 72 [rangeV r s,iV ll] (rangeV m1 n1))(c2:Pure Try.prog 72 [rangeV t u,iV ff] (rangeV m2 n2))(c3:Pure Try.prog 72 [rangeV v w,iV ss] (rangeV m3 n3))(g:Nat→AV)(hg:AllP (fun p => g p.1 = p.2) ((8,.ptr 6 0) :: boL2 V k)) :
    SW Try.prog none (.region 14 b14 true) (midK 132 (boL2 V k) ⟨(6,.cells none false [intsV nw false bu,intsV nw false le,iV hh,iV ll,iV ff,iV ss]) :: boS d nw x y z m0 n0 m1 n1 m2 n2 m3 n3 G0 G1 G2 R,7⟩)
      ⟨⟨132,g⟩,[]⟩ ⟨(6,.cells none false [intsV nw false bu,intsV nw false le,iV hh,iV ll,iV ff,iV ss]) :: boS d nw x y z p q r s t u v w G0 G1 G2 R,7⟩ := by
  obtain ⟨O,hO⟩ : ∃ O : Ar,O = std := ⟨_,rfl⟩
  obtain ⟨g8,g1,g2,g4,g5,g7,_⟩ := hg
  simp only at g1 g2 g4 g5 g7 g8
  rw [← updT_self g1,← updT_self g2,← updT_self g4,← updT_self g5,← updT_self g7,← updT_self g8]
  refine SW.drawnB tok (M:=b14M) mixed 28 b14_tidy b14_size (by kernel_rfl) ?_
  refine AnyE.tkO b14_tidy tok hO 0 107 1 (by kernel_rfl) (by kernel_rfl) (by cbv<;>rfl) (by trivial) (Eqv.refl _) ?_
  refine AnyE.tkO b14_tidy tok hO 1 108 3 (by kernel_rfl) (by kernel_rfl) (by cbv<;>rfl) (by trivial) (Eqv.refl _) ?_
  refine AnyE.tkO b14_tidy tok hO 2 109 7 (by kernel_rfl) (by kernel_rfl) (by cbv<;>rfl) (by trivial) (Eqv.refl _) ?_
  refine AnyE.tkO b14_tidy tok hO 3 110 15 (by kernel_rfl) (by kernel_rfl) (by cbv<;>rfl) (by trivial) (Eqv.refl _) ?_
  refine AnyE.tkO b14_tidy tok hO 5 112 47 (by kernel_rfl) (by kernel_rfl) (by cbv<;>rfl) (by trivial) (Eqv.refl _) ?_
  refine AnyE.tkO b14_tidy tok hO 6 113 111 (by kernel_rfl) (by kernel_rfl) (by cbv<;>rfl) (by trivial) (Eqv.refl _) ?_
  refine AnyE.tkO b14_tidy tok hO 7 114 239 (by kernel_rfl) (by kernel_rfl) (by cbv<;>rfl) (by trivial) (Eqv.refl _) ?_
  refine AnyE.tkO b14_tidy tok hO 8 115 495 (by kernel_rfl) (by kernel_rfl) (by cbv<;>rfl) (by trivial) (Eqv.refl _) ?_
  refine AnyE.tkO b14_tidy tok hO 10 117 1519 (by kernel_rfl) (by kernel_rfl) (by cbv<;>rfl) (by trivial) (Eqv.refl _) ?_
  refine AnyE.tkO b14_tidy tok hO 11 118 3567 (by kernel_rfl) (by kernel_rfl) (by cbv<;>rfl) (by trivial) (Eqv.refl _) ?_
  refine AnyE.tkO b14_tidy tok hO 12 119 7663 (by kernel_rfl) (by kernel_rfl) (by cbv<;>rfl) (by trivial) (Eqv.refl _) ?_
  refine AnyE.tkO b14_tidy tok hO 13 120 15855 (by kernel_rfl) (by kernel_rfl) (by cbv<;>rfl) (by trivial) (Eqv.refl _) ?_
  refine AnyE.tkO b14_tidy tok hO 15 122 48623 (by kernel_rfl) (by kernel_rfl) (by cbv<;>rfl) (by trivial) (Eqv.refl _) ?_
  refine AnyE.tkO b14_tidy tok hO 16 123 114159 (by kernel_rfl) (by kernel_rfl) (by cbv<;>rfl) (by trivial) (Eqv.refl _) ?_
  refine AnyE.tkO b14_tidy tok hO 17 124 245231 (by kernel_rfl) (by kernel_rfl) (by cbv<;>rfl) (by trivial) (Eqv.refl _) ?_
  refine AnyE.tkO b14_tidy tok hO 18 125 507375 (by kernel_rfl) (by kernel_rfl) (by cbv<;>rfl) (by trivial) (Eqv.refl _) ?_
  refine AnyE.cpN c0 4 111 507391 (by kernel_rfl) (by kernel_rfl) (by cbv<;>rfl) (by cbv<;>rfl) (by kernel_rfl) rfl ?_
  refine AnyE.tkO b14_tidy tok hO 20 127 1555967 (by kernel_rfl) (by kernel_rfl) (by cbv<;>rfl) (by trivial) (Eqv.refl _) ?_
  refine AnyE.cpN c1 9 116 1556479 (by kernel_rfl) (by kernel_rfl) (by cbv<;>rfl) (by cbv<;>rfl) (by kernel_rfl) rfl ?_
  refine AnyE.cpN c2 14 121 1572863 (by kernel_rfl) (by kernel_rfl) (by cbv<;>rfl) (by cbv<;>rfl) (by kernel_rfl) rfl ?_
  refine AnyE.cpN c3 19 126 2097151 (by kernel_rfl) (by kernel_rfl) (by cbv<;>rfl) (by cbv<;>rfl) (by kernel_rfl) rfl ?_
  refine AnyE.sd tok (G:=(bndO nw x y z p q r s t u v w)) 21 4194303 (by kernel_rfl) (by cbv<;>rfl) (by cbv<;>rfl) (by kernel_rfl) (by kernel_rfl) (Nat.le_of_ble_eq_true rfl) (by kernel_rfl) (by kernel_rfl) fun W0 hW0 => ?_
  obtain rfl : W0 = (bndO nw x y z m0 n0 r s t u v w) := hW0.trans (by rfl)
  refine ⟨(by repeat (first | exact trivial | refine And.intro (by cbv<;>rfl) ?_)),?_⟩
  refine AnyE.tkO b14_tidy tok hO 22 128 8388607 (by kernel_rfl) (by kernel_rfl) (by cbv<;>rfl) (by trivial) (Eqv.refl _) ?_
  refine AnyE.sd tok (G:=(bndO nw x y z m0 n0 r s t u v w)) 23 16777215 (by kernel_rfl) (by cbv<;>rfl) (by cbv<;>rfl) (by kernel_rfl) (by kernel_rfl) (Nat.le_of_ble_eq_true rfl) (by kernel_rfl) (by kernel_rfl) fun W1 hW1 => ?_
  obtain rfl : W1 = (bndO nw x y z m0 n0 m1 n1 t u v w) := hW1.trans (by rfl)
  refine ⟨(by repeat (first | exact trivial | refine And.intro (by cbv<;>rfl) ?_)),?_⟩
  refine AnyE.tkO b14_tidy tok hO 24 129 33554431 (by kernel_rfl) (by kernel_rfl) (by cbv<;>rfl) (by trivial) (Eqv.refl _) ?_
  refine AnyE.sd tok (G:=(bndO nw x y z m0 n0 m1 n1 t u v w)) 25 67108863 (by kernel_rfl) (by cbv<;>rfl) (by cbv<;>rfl) (by kernel_rfl) (by kernel_rfl) (Nat.le_of_ble_eq_true rfl) (by kernel_rfl) (by kernel_rfl) fun W2 hW2 => ?_
  obtain rfl : W2 = (bndO nw x y z m0 n0 m1 n1 m2 n2 v w) := hW2.trans (by rfl)
  refine ⟨(by repeat (first | exact trivial | refine And.intro (by cbv<;>rfl) ?_)),?_⟩
  refine AnyE.tkO b14_tidy tok hO 26 130 134217727 (by kernel_rfl) (by kernel_rfl) (by cbv<;>rfl) (by trivial) (Eqv.refl _) ?_
  refine AnyE.sd tok (G:=(bndO nw x y z m0 n0 m1 n1 m2 n2 v w)) 27 268435455 (by kernel_rfl) (by cbv<;>rfl) (by cbv<;>rfl) (by kernel_rfl) (by kernel_rfl) (Nat.le_of_ble_eq_true rfl) (by kernel_rfl) (by kernel_rfl) fun W3 hW3 => ?_
  obtain rfl : W3 = (bndO nw x y z m0 n0 m1 n1 m2 n2 m3 n3) := hW3.trans (by rfl)
  refine ⟨(by repeat (first | exact trivial | refine And.intro (by cbv<;>rfl) ?_)),?_⟩
  refine AnyE.done (by kernel_rfl) ?_
  exact midK.mk (by kernel_rfl) (by kernel_rfl) ⟨(by show _ = _;kernel_rfl),(by show _ = _;kernel_rfl),(by show _ = _;kernel_rfl),(by show _ = _;kernel_rfl),(by show _ = _;kernel_rfl),trivial⟩ (by kernel_rfl)
end Go.Fz
namespace Go.Fz
open Go.Proofs
set_option maxRecDepth 100000
set_option linter.unusedVariables false
noncomputable def b9P : {a:Array Oper // cL bB3 = .region 9 a true} := ⟨_,by rfl⟩
noncomputable def b9 : Array Oper := b9P.1
def b9M : List Nat := [0,0,0,6,14,31,0,127]
theorem b9_tidy : tidyB b9 b9M = true := by kernel_rfl
theorem b9_size : b9.size = 8 := by kernel_rfl
set_option maxHeartbeats 64000000 in
theorem bo_9 (d:DayD)(nw nl M:Nat)(F S:Nat→Nat→Int)(k:Nat)(hk:k < M)(x y z:Bool)(p q r s t u v w:Int)(G0 G1 G2 R:List AV)(bu le:Nat→Int)(hh ll ff ss:Int)
    (hpl:Pure Try.prog 47 [dayV d,.agg [intsV nw false (F k),intsV nl false (S k)]] (.agg [intsV nw false bu,intsV nw false le,iV hh,iV ll,iV ff,iV ss]))(g:Nat→AV)(hg:AllP (fun p => g p.1 = p.2) (boL2 (trsV M nw nl F S) k)) :
    SW Try.prog none (.region 9 b9 true) (midK 132 ((8,.ptr 6 0) :: boL2 (trsV M nw nl F S) k) ⟨(6,.cells none false [intsV nw false bu,intsV nw false le,iV hh,iV ll,iV ff,iV ss]) :: boS d nw x y z p q r s t u v w G0 G1 G2 R,7⟩)
      ⟨⟨132,g⟩,[]⟩ ⟨boS d nw x y z p q r s t u v w G0 G1 G2 R,6⟩ := by
  obtain ⟨O,hO⟩ : ∃ O : Ar,O = std := ⟨_,rfl⟩
  have hnat : ∀ i : Nat,O.nat (Int.ofNat i) = i := fun i => by subst hO;rfl
  have hcM : 0 ≤ Int.ofNat k ∧ Int.ofNat k < (M:Int) := ⟨Int.natCast_nonneg k,Int.ofNat_lt.2 hk⟩
  rw [show F k = F (O.nat (Int.ofNat k)) by rw [hnat],show S k = S (O.nat (Int.ofNat k)) by rw [hnat]] at hpl
  obtain ⟨g1,g2,g4,g5,g7,_⟩ := hg
  simp only at g1 g2 g4 g5 g7
  rw [← updT_self g1,← updT_self g2,← updT_self g4,← updT_self g5,← updT_self g7]
  refine SW.drawnB tok (M:=b9M) mixed 8 b9_tidy b9_size (by kernel_rfl) ?_
  refine AnyE.tkO b9_tidy tok hO 0 46 1 (by kernel_rfl) (by kernel_rfl) (by cbv<;>rfl) (by trivial) (Eqv.refl _) ?_
  refine AnyE.tkO b9_tidy tok hO 1 47 3 (by kernel_rfl) (by kernel_rfl) (by cbv<;>rfl) (by trivial) (Eqv.refl _) ?_
  refine AnyE.tkO b9_tidy tok hO 2 48 7 (by kernel_rfl) (by kernel_rfl) (by cbv<;>rfl) (by trivial) (Eqv.refl _) ?_
  refine AnyE.tkO b9_tidy tok hO 3 49 15 (by kernel_rfl) (by kernel_rfl) (by cbv<;>rfl) (by repeat (first | exact trivial | exact hcM | refine ⟨?_,?_⟩)) (Eqv.refl _) ?_
  refine AnyE.tkO b9_tidy tok hO 4 50 31 (by kernel_rfl) (by kernel_rfl) (by cbv<;>rfl) (by trivial) (Eqv.refl _) ?_
  refine AnyE.many [5,6] (by kernel_rfl) (by rfl) ⟨?_,?_,trivial⟩
  · refine PickE.callQ hpl (by cbv <;> rfl) (by cbv <;> rfl) (by repeat (first | exact trivial | refine And.intro (by cbv <;> rfl) ?_)) ?_
    refine AnyE.ls (n:=8) 63 (by kernel_rfl) (show putAt b9 5 _ _ = Fm.put _ (some 51) _ from rfl) ?_
    refine AnyE.efB tok hO 6 127 (by kernel_rfl) (by cbv<;>rfl) (by cbv<;>rfl) (by trivial) (by kernel_rfl) (by repeat (first | exact trivial | refine And.intro (by cbv<;>rfl) ?_)) ?_
    refine AnyE.efB tok hO 7 255 (by kernel_rfl) (by cbv<;>rfl) (by cbv<;>rfl) (by trivial) (by kernel_rfl) (by repeat (first | exact trivial | refine And.intro (by cbv<;>rfl) ?_)) ?_
    refine AnyE.done (by kernel_rfl) ?_
    exact midK.mk (by kernel_rfl) (by kernel_rfl) ⟨(by show _ = _;kernel_rfl),(by show _ = _;kernel_rfl),(by show _ = _;kernel_rfl),(by show _ = _;kernel_rfl),(by show _ = _;kernel_rfl),(by show _ = _;kernel_rfl),trivial⟩ (by kernel_rfl)
  · refine PickE.eff tok hO (by cbv <;> rfl) (by cbv <;> rfl) (by trivial) (by repeat (first | exact trivial | refine And.intro (stAt_light hO (by cbv <;> rfl) (by repeat (first | exact trivial | exact hcM | refine ⟨?_, ?_⟩))) ?_)) ?_
    refine AnyE.ls (n:=8) 95 (by kernel_rfl) rfl ?_
    refine AnyE.cpN hpl 5 51 127 (by kernel_rfl) (by kernel_rfl) (by cbv<;>rfl) (by cbv<;>rfl) (by kernel_rfl) rfl ?_
    refine AnyE.efB tok hO 7 255 (by kernel_rfl) (by cbv<;>rfl) (by cbv<;>rfl) (by trivial) (by kernel_rfl) (by repeat (first | exact trivial | refine And.intro (by cbv<;>rfl) ?_)) ?_
    refine AnyE.done (by kernel_rfl) ?_
    exact midK.mk (by kernel_rfl) (by kernel_rfl) ⟨(by show _ = _;kernel_rfl),(by show _ = _;kernel_rfl),(by show _ = _;kernel_rfl),(by show _ = _;kernel_rfl),(by show _ = _;kernel_rfl),(by show _ = _;kernel_rfl),trivial⟩ (by kernel_rfl)
end Go.Fz
namespace Go.Fz
open Go.Proofs
set_option maxRecDepth 100000
set_option linter.unusedVariables false
def mnI (i:Nat)(lo f:Nat→Int)(j:Nat) : Int := if j < i then std.mn (lo j) (f j) else lo j
def mxI (i:Nat)(hi f:Nat→Int)(j:Nat) : Int := if j < i then std.mx (hi j) (f j) else hi j
theorem flat2_set (lo hi lo' hi':Nat→Int)(n i:Nat)(hi0:i < n)(hne:∀ j,j ≠ i→lo' j = lo j ∧ hi' j = hi j) : ((flatG 2 (rngC lo hi) n).set (0 + i * 2) (iV (lo' i))).set (0 + i * 2 + 1) (iV (hi' i)) = flatG 2 (rngC lo' hi') n := by
  apply List.ext_getElem?
  intro m
  have hlen : ∀ a b,(flatG 2 (rngC a b) n).length = n * 2 := fun a b => flatG_length 2 _ n
  rw [List.getElem?_set,List.getElem?_set,List.length_set,hlen]
  by_cases hm : m < n * 2
  · obtain ⟨j, k, hk, rfl⟩ : ∃ j k, k < 2 ∧ m = j * 2 + k := ⟨m / 2, m % 2, Nat.mod_lt _ (by omega), by omega⟩
    have hj : j < n := by omega
    rw [flatG_get 2 _ n j k hj hk,flatG_get 2 _ n j k hj hk]
    by_cases hji : j = i
    · subst hji
      have hk2 : k = 0 ∨ k = 1 := by omega
      rcases hk2 with rfl | rfl
      · rw [if_neg (by omega),if_pos (by omega),if_pos (by omega)];rfl
      · rw [if_pos (by omega),if_pos (by omega)];rfl
    · obtain ⟨e1,e2⟩ := hne j hji
      rw [if_neg (by omega),if_neg (by omega)]
      match k with
      | 0 => show some (iV (lo j)) = some (iV (lo' j));rw [e1]
      | k + 1 => show some (iV (hi j)) = some (iV (hi' j));rw [e2]
  · rw [List.getElem?_eq_none (by rw [hlen]; omega), List.getElem?_eq_none (by rw [hlen]; omega)]
    rw [if_neg (by omega),if_neg (by omega)]
theorem mnI_at (i:Nat)(lo f:Nat→Int) : mnI i lo f i = lo i := if_neg (Nat.lt_irrefl i)
theorem mxI_at (i:Nat)(lo f:Nat→Int) : mxI i lo f i = lo i := if_neg (Nat.lt_irrefl i)
theorem flat2_step (lo hi f:Nat→Int)(n i:Nat)(h:i < n) : ((flatG 2 (rngC (mnI i lo f) (mxI i hi f)) n).set (0 + i * 2) (iV (std.mn (lo i) (f i)))).set (0 + i * 2 + 1) (iV (std.mx (hi i) (f i))) = flatG 2 (rngC (mnI (i + 1) lo f) (mxI (i + 1) hi f)) n := by
  have e1 : std.mn (lo i) (f i) = mnI (i + 1) lo f i := (if_pos (Nat.lt_succ_self i)).symm
  have e2 : std.mx (hi i) (f i) = mxI (i + 1) hi f i := (if_pos (Nat.lt_succ_self i)).symm
  rw [e1,e2]
  refine flat2_set _ _ _ _ n i h fun j hj => ⟨?_,?_⟩
  · unfold mnI;by_cases h2 : j < i
    · rw [if_pos h2,if_pos (by omega)]
    · rw [if_neg h2,if_neg (by omega)]
  · unfold mxI;by_cases h2 : j < i
    · rw [if_pos h2,if_pos (by omega)]
    · rw [if_neg h2,if_neg (by omega)]
theorem flat2_at0 (lo hi:Nat→Int)(n i:Nat)(h:i < n) : (flatG 2 (rngC lo hi) n)[0 + i * 2]? = some (iV (lo i)) := by
  rw [show 0 + i * 2 = i * 2 + 0 by omega];exact flatG_get 2 _ n i 0 h (by omega)
theorem flat2_at1 (lo hi:Nat→Int)(n i:Nat)(h:i < n) : (flatG 2 (rngC lo hi) n)[0 + i * 2 + 1]? = some (iV (hi i)) := by
  rw [show 0 + i * 2 + 1 = i * 2 + 1 by omega];exact flatG_get 2 _ n i 1 h (by omega)
def boI (d:DayD)(i:Nat)(x y z:Bool)(p q r s t u v w:Int)(lo0 hi0 lo1 hi1 lo2 hi2 f0 f1 f2:Nat→Int)(R:List AV) : Hp :=
  boS d d.nw x y z p q r s t u v w (flatG 2 (rngC (mnI i lo0 f0) (mxI i hi0 f0)) d.nw) (flatG 2 (rngC (mnI i lo1 f1) (mxI i hi1 f1)) d.nw) (flatG 2 (rngC (mnI i lo2 f2) (mxI i hi2 f2)) d.nw) R
def boT (d:DayD)(bu le:Nat→Int)(hh ll ff ss:Int) : Nat × AObj := (6,.cells none false [intsV d.nw false bu,intsV d.nw false le,iV hh,iV ll,iV ff,iV ss])
set_option maxHeartbeats 16000000 in
theorem bo_in (d:DayD)(hnw:d.nw < 1000)(nl M:Nat)(F S:Nat→Nat→Int)(k:Nat)(hk:k < M)(x y z:Bool)(p q r s t u v w:Int)(lo0 hi0 lo1 hi1 lo2 hi2:Nat→Int)(R:List AV)(bu le:Nat→Int)(hh ll ff ss:Int)
    (g:Nat→AV)(hg:AllP (fun p => g p.1 = p.2) ((8,.ptr 6 0) :: boL2 (trsV M d.nw nl F S) k)) :
    SW Try.prog none (cL (cR bB3)) (midK 132 ((8,.ptr 6 0) :: boL2 (trsV M d.nw nl F S) k) ⟨boT d bu le hh ll ff ss :: boI d d.nw x y z p q r s t u v w lo0 hi0 lo1 hi1 lo2 hi2 (F k) bu le R,7⟩)
      ⟨⟨132,g⟩,[]⟩ ⟨boT d bu le hh ll ff ss :: boI d 0 x y z p q r s t u v w lo0 hi0 lo1 hi1 lo2 hi2 (F k) bu le R,7⟩ := by
  obtain ⟨O,hO⟩ : ∃ O : Ar,O = std := ⟨_,rfl⟩
  have hlt : ∀ i : Nat,O.cmp .lss (Int.ofNat i) (Int.ofNat d.nw) = true→i < d.nw := fun i h => by
    have : (Int.ofNat i : Int) < Int.ofNat d.nw := by subst hO;simpa [std] using h
    exact Int.ofNat_lt.1 this
  have hge : ∀ i : Nat,O.cmp .lss (Int.ofNat i) (Int.ofNat d.nw) = false→d.nw ≤ i := fun i h => by
    have : ¬ (Int.ofNat i : Int) < Int.ofNat d.nw := by subst hO;simpa [std] using h
    exact Nat.le_of_not_lt fun h2 => this (Int.ofNat_lt.2 h2)
  obtain ⟨G0,hG0⟩ : ∃ G : Nat→List AV,∀ i,G i = flatG 2 (rngC (mnI i lo0 (F k)) (mxI i hi0 (F k))) d.nw := ⟨_,fun _ => rfl⟩
  obtain ⟨G1,hG1⟩ : ∃ G : Nat→List AV,∀ i,G i = flatG 2 (rngC (mnI i lo1 bu) (mxI i hi1 bu)) d.nw := ⟨_,fun _ => rfl⟩
  obtain ⟨G2,hG2⟩ : ∃ G : Nat→List AV,∀ i,G i = flatG 2 (rngC (mnI i lo2 le) (mxI i hi2 le)) d.nw := ⟨_,fun _ => rfl⟩
  have hB : ∀ i,boI d i x y z p q r s t u v w lo0 hi0 lo1 hi1 lo2 hi2 (F k) bu le R = boS d d.nw x y z p q r s t u v w (G0 i) (G1 i) (G2 i) R := fun i => by unfold boI;rw [hG0,hG1,hG2]
  rw [hB,hB]
  have s0 : ∀ i,i < d.nw→((G0 i).set (0 + i * 2) (iV (std.mn (lo0 i) (F k i)))).set (0 + i * 2 + 1) (iV (std.mx (hi0 i) (F k i))) = G0 (i + 1) := fun i h => by rw [hG0,hG0];exact flat2_step _ _ _ _ i h
  have s1 : ∀ i,i < d.nw→((G1 i).set (0 + i * 2) (iV (std.mn (lo1 i) (bu i)))).set (0 + i * 2 + 1) (iV (std.mx (hi1 i) (bu i))) = G1 (i + 1) := fun i h => by rw [hG1,hG1];exact flat2_step _ _ _ _ i h
  have s2 : ∀ i,i < d.nw→((G2 i).set (0 + i * 2) (iV (std.mn (lo2 i) (le i)))).set (0 + i * 2 + 1) (iV (std.mx (hi2 i) (le i))) = G2 (i + 1) := fun i h => by rw [hG2,hG2];exact flat2_step _ _ _ _ i h
  have A0 : ∀ i,i < d.nw→(G0 i)[0 + i * 2]? = some (iV (lo0 i)) := fun i h => by rw [hG0,flat2_at0 _ _ _ _ h,mnI_at]
  have B0 : ∀ i,i < d.nw→(G0 i)[0 + i * 2 + 1]? = some (iV (hi0 i)) := fun i h => by rw [hG0,flat2_at1 _ _ _ _ h,mxI_at]
  have A1 : ∀ i,i < d.nw→(G1 i)[0 + i * 2]? = some (iV (lo1 i)) := fun i h => by rw [hG1,flat2_at0 _ _ _ _ h,mnI_at]
  have B1 : ∀ i,i < d.nw→(G1 i)[0 + i * 2 + 1]? = some (iV (hi1 i)) := fun i h => by rw [hG1,flat2_at1 _ _ _ _ h,mxI_at]
  have A2 : ∀ i,i < d.nw→(G2 i)[0 + i * 2]? = some (iV (lo2 i)) := fun i h => by rw [hG2,flat2_at0 _ _ _ _ h,mnI_at]
  have B2 : ∀ i,i < d.nw→(G2 i)[0 + i * 2 + 1]? = some (iV (hi2 i)) := fun i h => by rw [hG2,flat2_at1 _ _ _ _ h,mxI_at]
  clear hB
  obtain ⟨g8,g1,g2,g4,g5,g7,_⟩ := hg
  simp only at g1 g2 g4 g5 g7 g8
  rw [← updT_self g1,← updT_self g2,← updT_self g4,← updT_self g5,← updT_self g7,← updT_self g8]
  generalize hV : trsV M d.nw nl F S = V
  have hVb : Below 0 V := by rw [← hV];exact trsV_below _ _ _ _ _
  refine (show SW Try.prog none (.seq (.region 10 _ false) (.block 4 (.loop (.seq (.seq (.region 11 _ false) (.cond _ .skip (.exit 4))) (.seq (.block 5 (.region 13 b13 true)) (.region 12 _ false)))))) _ _ _ from ?_)
  refine SW.seqRun tok hO (by cbv<;>rfl) (by trivial) ?_
  refine (SW.block (SW.loopF (fun i:Nat => ⟨⟨132,getT (boL V k i)⟩,[]⟩) (fun i => ⟨boT d bu le hh ll ff ss :: boS d d.nw x y z p q r s t u v w (G0 i) (G1 i) (G2 i) R,7⟩) (fun i => d.nw - i) (fun i => i ≤ d.nw) 0
    (fun _ => rfl) (Nat.zero_le _) (Weak.by rfl rfl (by simp) (Nat.le_refl _) (Nat.le_refl _) ⟨⟨rfl,.inl rfl⟩,⟨rfl,.inl rfl⟩,⟨rfl,.inl rfl⟩,⟨rfl,.inl rfl⟩,⟨rfl,.inl rfl⟩,⟨rfl,.inl rfl⟩,⟨rfl,.inl rfl⟩,trivial⟩ ⟨⟨rfl,by show 6 < 7;omega,.inl rfl⟩,⟨rfl,by show _ < 7;omega,.inl rfl⟩,⟨rfl,by show _ < 7;omega,.inl rfl⟩,⟨rfl,by show _ < 7;omega,.inl rfl⟩,⟨rfl,by show _ < 7;omega,.inl rfl⟩,⟨rfl,by show _ < 7;omega,.inl rfl⟩,⟨rfl,by show _ < 7;omega,.inl rfl⟩,trivial⟩) fun i hle => ?_))
  refine SW.seq ?_
  refine SW.seqRun tok hO (by cbv<;>rfl) (by trivial) ?_
  refine SW.condS (by cbv<;>rfl) (fun h => SW.skip ?_) (fun h => SW.exit ?_)
  · have hi := hlt i h
    refine SW.seq (SW.block ((bo_13 d d.nw nl M F S k i hk hi x y z p q r s t u v w _ _ _ R bu le hh ll ff ss _ _ _ _ _ _ _ _ _ _ _ _ (A0 i hi) (B0 i hi) (A1 i hi) (B1 i hi) (A2 i hi) (B2 i hi) (wider72_ok _ _ _) (wider72_ok _ _ _) (wider72_ok _ _ _) _ (by rw [hV];exact ⟨rfl,rfl,rfl,rfl,rfl,rfl,rfl,trivial⟩)).mono fun e f st hm => ?_))
    obtain ⟨rfl,g',rfl,h',rfl⟩ := hm
    rw [hV] at h'
    rw [s0 i hi,s1 i hi,s2 i hi]
    obtain ⟨k1,k2,k4,k5,k7,k8,k9,_⟩ := h'
    simp only at k1 k2 k4 k5 k7 k8 k9
    rw [← updT_self k1,← updT_self k2,← updT_self k4,← updT_self k5,← updT_self k7,← updT_self k8,← updT_self k9]
    refine SW.run tok hO (by cbv<;>rfl) (by trivial) ?_
    exact ⟨i + 1,by omega,hi,Weak.by rfl rfl (by simp) (Nat.le_refl _) (Nat.le_refl _) ⟨⟨rfl,.inl rfl⟩,⟨rfl,.inl rfl⟩,⟨rfl,.inl rfl⟩,⟨rfl,.inl rfl⟩,⟨rfl,.inl rfl⟩,⟨rfl,.inl rfl⟩,⟨inc_ok hO (by omega),.inl rfl⟩,trivial⟩ ⟨⟨rfl,by show 6 < 7;omega,.inl rfl⟩,⟨rfl,by show _ < 7;omega,.inl rfl⟩,⟨rfl,by show _ < 7;omega,.inl rfl⟩,⟨rfl,by show _ < 7;omega,.inl rfl⟩,⟨rfl,by show _ < 7;omega,.inl rfl⟩,⟨rfl,by show _ < 7;omega,.inl rfl⟩,⟨rfl,by show _ < 7;omega,.inl rfl⟩,trivial⟩⟩
  · have hi : i = d.nw := Nat.le_antisymm hle (hge i h)
    subst hi
    exact (show midK 132 _ _ .normal _ _ from midK.mk rfl rfl ⟨rfl,rfl,rfl,rfl,rfl,rfl,trivial⟩ rfl)
end Go.Fz
namespace Go.Fz
open Go.Proofs
set_option maxRecDepth 100000
set_option linter.unusedVariables false
def mnK (f:Nat→Int)(a:Int) : Nat→Int
  | 0 => a
  | k + 1 => std.mn (mnK f a k) (f k)
def mxK (f:Nat→Int)(a:Int) : Nat→Int
  | 0 => a
  | k + 1 => std.mx (mxK f a k) (f k)
def rgK (F:Nat→Nat→Int)(a b:Int)(k:Nat) : Nat→Nat→AV := rngC (fun j => mnK (fun t => F t j) a k) (fun j => mxK (fun t => F t j) b k)
theorem rgK_zero (F:Nat→Nat→Int)(a b:Int)(n k:Nat) : flatG 2 (rngC (mnI 0 (fun j => mnK (fun t => F t j) a k) (F k)) (mxI 0 (fun j => mxK (fun t => F t j) b k) (F k))) n = flatG 2 (rgK F a b k) n :=
  flatG_congr fun i j _ => by
    unfold rgK rngC mnI mxI
    cases j<;>simp
theorem rgK_succ (F:Nat→Nat→Int)(a b:Int)(n k:Nat) : flatG 2 (rngC (mnI n (fun j => mnK (fun t => F t j) a k) (F k)) (mxI n (fun j => mxK (fun t => F t j) b k) (F k))) n = flatG 2 (rgK F a b (k + 1)) n :=
  flatG_congr fun i j hi => by
    unfold rgK rngC mnI mxI
    cases j with
    | zero => show iV (if i < n then _ else _) = _;rw [if_pos hi];rfl
    | succ j => show iV (if i < n then _ else _) = _;rw [if_pos hi];rfl
def boL0 (V:AV) : List (Nat × AV) := [(1,V),(2,.ptr 0 0),(4,.ptr 1 0),(5,.ptr 2 0)]
def boK (d:DayD)(x y z:Bool)(a b:Int)(F bu le:Nat→Nat→Int)(HH LL FF SS:Nat→Int)(R:List AV)(k:Nat) : Hp :=
  boS d d.nw x y z (mnK HH a k) (mxK HH b k) (mnK LL a k) (mxK LL b k) (mnK FF a k) (mxK FF b k) (mnK SS a k) (mxK SS b k) (flatG 2 (rgK F a b k) d.nw) (flatG 2 (rgK bu a b k) d.nw) (flatG 2 (rgK le a b k) d.nw) R
set_option maxHeartbeats 16000000 in
theorem bo_round (d:DayD)(hnw:d.nw < 1000)(nl M:Nat)(F S:Nat→Nat→Int)(k:Nat)(hk:k < M)(x y z:Bool)(a b:Int)(R:List AV)(bu le:Nat→Nat→Int)(HH LL FF SS:Nat→Int)
    (hpl:Pure Try.prog 47 [dayV d,.agg [intsV d.nw false (F k),intsV nl false (S k)]] (.agg [intsV d.nw false (bu k),intsV d.nw false (le k),iV (HH k),iV (LL k),iV (FF k),iV (SS k)]))(g:Nat→AV)(hg:AllP (fun p => g p.1 = p.2) (boL2 (trsV M d.nw nl F S) k)) :
    SW Try.prog none (cB (cL (cR bL2))) (midK 132 (boL2 (trsV M d.nw nl F S) k) ⟨boT d (bu k) (le k) (HH k) (LL k) (FF k) (SS k) :: boK d x y z a b F bu le HH LL FF SS R (k + 1),7⟩)
      ⟨⟨132,g⟩,[]⟩ ⟨boK d x y z a b F bu le HH LL FF SS R k,6⟩ := by
  refine (show SW Try.prog none (.seq (.region 9 b9 true) (.seq (cL (cR bB3)) (.region 14 b14 true))) _ _ _ from ?_)
  refine SW.seq ((bo_9 d d.nw nl M F S k hk x y z _ _ _ _ _ _ _ _ _ _ _ R (bu k) (le k) _ _ _ _ hpl g hg).mono fun e f st hm => ?_)
  obtain ⟨rfl,g',rfl,h',rfl⟩ := hm
  refine SW.seq ((show SW Try.prog none (cL (cR bB3)) _ _ _ from ?_ : SW Try.prog none (cL (cR bB3)) _ _ _))
  have hb := bo_in d hnw nl M F S k hk x y z (mnK HH a k) (mxK HH b k) (mnK LL a k) (mxK LL b k) (mnK FF a k) (mxK FF b k) (mnK SS a k) (mxK SS b k) (fun j => mnK (fun t => F t j) a k) (fun j => mxK (fun t => F t j) b k) (fun j => mnK (fun t => bu t j) a k) (fun j => mxK (fun t => bu t j) b k) (fun j => mnK (fun t => le t j) a k) (fun j => mxK (fun t => le t j) b k) R (bu k) (le k) (HH k) (LL k) (FF k) (SS k) g' h'
  unfold boI at hb
  rw [rgK_zero,rgK_zero,rgK_zero,rgK_succ,rgK_succ,rgK_succ] at hb
  refine hb.mono fun e f st hm => ?_
  obtain ⟨rfl,g2,rfl,h2,rfl⟩ := hm
  exact bo_14 d d.nw _ k x y z _ _ _ _ _ _ _ _ _ _ _ R (bu k) (le k) (HH k) (LL k) (FF k) (SS k) _ _ _ _ _ _ _ _ (wider72_ok _ _ _) (wider72_ok _ _ _) (wider72_ok _ _ _) (wider72_ok _ _ _) g2 h2
end Go.Fz
namespace Go.Fz
open Go.Proofs
set_option maxRecDepth 100000
set_option linter.unusedVariables false
theorem boK_eq (d:DayD)(x y z:Bool)(a b:Int)(F bu le:Nat→Nat→Int)(HH LL FF SS:Nat→Int)(R:List AV)(k:Nat) : boK d x y z a b F bu le HH LL FF SS R k = boS d d.nw x y z (mnK HH a k) (mxK HH b k) (mnK LL a k) (mxK LL b k) (mnK FF a k) (mxK FF b k) (mnK SS a k) (mxK SS b k) (flatG 2 (rgK F a b k) d.nw) (flatG 2 (rgK bu a b k) d.nw) (flatG 2 (rgK le a b k) d.nw) R := rfl
theorem flat2_below (lo hi:Nat→Int)(n:Nat) : ∀ a ∈ flatG 2 (rngC lo hi) n,Below 0 a := flatG_below (fun i j => rngC_below lo hi i j) n
set_option maxHeartbeats 16000000 in
theorem bo_out (d:DayD)(hnw:d.nw < 1000)(nl M:Nat)(hM:M < 100000)(F S:Nat→Nat→Int)(x y z:Bool)(a b:Int)(R:List AV)(hR:∀ v ∈ R,Below 0 v)(bu le:Nat→Nat→Int)(HH LL FF SS:Nat→Int)
    (hpl:∀ k,k < M→Pure Try.prog 47 [dayV d,.agg [intsV d.nw false (F k),intsV nl false (S k)]] (.agg [intsV d.nw false (bu k),intsV d.nw false (le k),iV (HH k),iV (LL k),iV (FF k),iV (SS k)]))(g:Nat→AV)(hg:AllP (fun p => g p.1 = p.2) (boL0 (trsV M d.nw nl F S))) :
    SW Try.prog none (cL bX3) (midK 132 (boL0 (trsV M d.nw nl F S)) ⟨boK d x y z a b F bu le HH LL FF SS R M,6⟩)
      ⟨⟨132,g⟩,[]⟩ ⟨boK d x y z a b F bu le HH LL FF SS R 0,6⟩ := by
  obtain ⟨O,hO⟩ : ∃ O : Ar,O = std := ⟨_,rfl⟩
  have hlt : ∀ i : Nat,O.cmp .lss (Int.ofNat i) (Int.ofNat M) = true→i < M := fun i h => by
    have : (Int.ofNat i : Int) < Int.ofNat M := by subst hO;simpa [std] using h
    exact Int.ofNat_lt.1 this
  have hge : ∀ i : Nat,O.cmp .lss (Int.ofNat i) (Int.ofNat M) = false→M ≤ i := fun i h => by
    have : ¬ (Int.ofNat i : Int) < Int.ofNat M := by subst hO;simpa [std] using h
    exact Nat.le_of_not_lt fun h2 => this (Int.ofNat_lt.2 h2)
  have round := fun k hk => bo_round d hnw nl M F S k hk x y z a b R bu le HH LL FF SS (hpl k hk)
  obtain ⟨G0,hG0⟩ : ∃ G : Nat→List AV,∀ k,G k = flatG 2 (rgK F a b k) d.nw := ⟨_,fun _ => rfl⟩
  obtain ⟨G1,hG1⟩ : ∃ G : Nat→List AV,∀ k,G k = flatG 2 (rgK bu a b k) d.nw := ⟨_,fun _ => rfl⟩
  obtain ⟨G2,hG2⟩ : ∃ G : Nat→List AV,∀ k,G k = flatG 2 (rgK le a b k) d.nw := ⟨_,fun _ => rfl⟩
  have b0 : ∀ k,∀ v ∈ G0 k,Below 0 v := fun k => by rw [hG0];exact flat2_below _ _ _
  have b1 : ∀ k,∀ v ∈ G1 k,Below 0 v := fun k => by rw [hG1];exact flat2_below _ _ _
  have b2 : ∀ k,∀ v ∈ G2 k,Below 0 v := fun k => by rw [hG2];exact flat2_below _ _ _
  have hB : ∀ k,boK d x y z a b F bu le HH LL FF SS R k = boS d d.nw x y z (mnK HH a k) (mxK HH b k) (mnK LL a k) (mxK LL b k) (mnK FF a k) (mxK FF b k) (mnK SS a k) (mxK SS b k) (G0 k) (G1 k) (G2 k) R := fun k => by rw [boK_eq,hG0,hG1,hG2]
  simp only [hB] at round
  rw [hB,hB]
  clear hB hG0 hG1 hG2
  generalize mnK HH a = p0 at *
  generalize mxK HH b = p1 at *
  generalize mnK LL a = p2 at *
  generalize mxK LL b = p3 at *
  generalize mnK FF a = p4 at *
  generalize mxK FF b = p5 at *
  generalize mnK SS a = p6 at *
  generalize mxK SS b = p7 at *
  obtain ⟨g1,g2,g4,g5,_⟩ := hg
  simp only at g1 g2 g4 g5
  rw [← updT_self g1,← updT_self g2,← updT_self g4,← updT_self g5]
  have hVb : Below 0 (trsV M d.nw nl F S) := trsV_below _ _ _ _ _
  refine (show SW Try.prog none (.seq (.region 6 _ false) (.block 2 (.loop (.seq (.seq (.region 7 _ false) (.cond _ .skip (.exit 2))) (.seq (.block 3 (cB (cL (cR bL2)))) (.region 8 _ false)))))) _ _ _ from ?_)
  refine SW.seqRun tok hO (by cbv<;>rfl) (by trivial) ?_
  refine (SW.block (SW.loopF (fun i:Nat => ⟨⟨132,getT (boL2 (trsV M d.nw nl F S) i)⟩,[]⟩) (fun i => ⟨boS d d.nw x y z (p0 i) (p1 i) (p2 i) (p3 i) (p4 i) (p5 i) (p6 i) (p7 i) (G0 i) (G1 i) (G2 i) R,6⟩) (fun i => M - i) (fun i => i ≤ M) 0
    (fun _ => rfl) (Nat.zero_le _) (Weak.by rfl rfl (by simp) (Nat.le_refl _) (Nat.le_refl _) ⟨⟨rfl,.inl rfl⟩,⟨rfl,.inl rfl⟩,⟨rfl,.inl rfl⟩,⟨rfl,.inl rfl⟩,⟨rfl,.inl rfl⟩,trivial⟩ ⟨⟨rfl,by show _ < 6;omega,.inl rfl⟩,⟨rfl,by show _ < 6;omega,.inl rfl⟩,⟨rfl,by show _ < 6;omega,.inl rfl⟩,⟨rfl,by show _ < 6;omega,.inl rfl⟩,⟨rfl,by show _ < 6;omega,.inl rfl⟩,⟨rfl,by show _ < 6;omega,.inl rfl⟩,trivial⟩) fun i hle => ?_))
  refine SW.seq ?_
  refine SW.seqRun tok hO (by cbv<;>rfl) (by trivial) ?_
  refine SW.condS (by cbv<;>rfl) (fun h => SW.skip ?_) (fun h => SW.exit ?_)
  · have hi := hlt i h
    refine SW.seq (SW.block ((round i hi _ ⟨rfl,rfl,rfl,rfl,rfl,trivial⟩).mono fun e f st hm => ?_))
    obtain ⟨rfl,g',rfl,h',rfl⟩ := hm
    obtain ⟨k1,k2,k4,k5,k7,_⟩ := h'
    simp only at k1 k2 k4 k5 k7
    rw [← updT_self k1,← updT_self k2,← updT_self k4,← updT_self k5,← updT_self k7]
    refine SW.run tok hO (by cbv<;>rfl) (by trivial) ?_
    have up : ∀ G : List AV,(∀ v ∈ G,Below 0 v)→ObjBelow 6 (.cells none false G) := fun G hG => ⟨fun v hv => Below.up (m:=0) (hG v hv),fun _ h => nomatch h⟩
    have ho : ObjBelow 6 (.cells none false (bndO d.nw x y z (p0 (i + 1)) (p1 (i + 1)) (p2 (i + 1)) (p3 (i + 1)) (p4 (i + 1)) (p5 (i + 1)) (p6 (i + 1)) (p7 (i + 1)))) := ⟨AllB.ok ⟨Below.sl (by omega),Below.sl (by omega),Below.sl (by omega),Below.lit,Below.lit,Below.lit,Below.lit,Below.lit,Below.lit,Below.lit,Below.lit,trivial⟩,fun _ h => nomatch h⟩
    exact ⟨i + 1, by omega, hi, Weak.by rfl rfl (by simp) (Nat.le_refl _) (by show 6 ≤ 7; omega) ⟨⟨rfl, .inr (Below.up (m := 0) hVb)⟩, ⟨rfl, .inr (Below.ptr (by omega))⟩, ⟨rfl, .inr (Below.ptr (by omega))⟩, ⟨rfl, .inr (Below.ptr (by omega))⟩, ⟨inc_ok hO (by omega), .inr Below.lit⟩, trivial⟩
      ⟨⟨rfl,by show _ < 6;omega,.inr (up _ (b2 _))⟩,⟨rfl,by show _ < 6;omega,.inr (up _ (b1 _))⟩,⟨rfl,by show _ < 6;omega,.inr (up _ (b0 _))⟩,⟨rfl,by show _ < 6;omega,.inr ho⟩,⟨rfl,by show _ < 6;omega,.inr (up _ hR)⟩,⟨rfl,by show _ < 6;omega,.inr (up _ (dayC_below d))⟩,trivial⟩⟩
  · have hi : i = M := Nat.le_antisymm hle (hge i h)
    subst hi
    exact (show midK 132 _ _ .normal _ _ from midK.mk rfl rfl ⟨rfl,rfl,rfl,rfl,trivial⟩ rfl)
end Go.Fz
