/- Own work of the verifier of watercress: EvKn. -/
import Derived.Test.YtpefamheopplnaaMc6
set_option linter.unusedVariables false
set_option linter.unusedSimpArgs false
namespace Go.Ev
section
variable {P:Program}{T:Ti}
theorem Rel.name {φ:Fi}{st:St}{w:World}(hr:Rel φ st w)(l:Loc):Rel (φ.push l) ⟨st.h,st.n+1⟩ w∧Fr φ st w (φ.push l) ⟨st.h,st.n+1⟩ w:=by
 have hold:∀ id x,st.h.get id=some x→id<φ.n∧(φ.push l).f id=φ.f id:=fun id x hx=>by
  have h1:=hr.lt id x hx
  rw[←hr.n] at h1
  exact⟨h1,(φ.Aw l).f id h1⟩
 refine⟨⟨by simp[Fi.push,hr.n],fun id x hx=>?_,fun id x hx=>?_,fun id x hx=>?_,fun i j oi oj hi hj hij ho=>?_⟩,⟨rfl,rfl,rfl,Nat.le_refl _,fun k hk _=>rfl,fun k hk=>?_⟩⟩
 ·show _<st.n+1;have:=hr.lt id x hx;omega
 ·rw[(hold id x hx).2];exact hr.blk id x hx
 ·exact(hr.obj id x hx).same (φ.Aw l) (hold id x hx).1 rfl
 ·rw[(hold i oi hi).2,(hold j oj hj).2]
  exact hr.sep i j oi oj hi hj hij ho
 ·obtain⟨id,x,hx,ho,hb⟩:=hk
  left;exact⟨id,x,hx,ho,by rw[←(hold id x hx).2];exact hb⟩
def xEnd1 (T:Ti)(st:St)(ρ:Operand→AV)(o:Oper):Option (List (AV × St)) :=
 match o.op with
 | .slice t x (some lo) none none=>match T t with
  | some i=>match i.desc with
   | .slice e=>match T e with
    | some j=>match ρ x with
     | .sl _ _ len sz _=>match Nat.beq j.size sz&&(match natOf (ρ lo) with
      | some l=>Nat.beq l len
      | none=>false) with
      | true=>some [(.sl st.n 0 0 sz false,⟨st.h,st.n+1⟩)]
      | false=>none
     | _=>none
    | none=>none
   | _=>none
  | none=>none
 | _=>none
theorem jT (hT:TOk P T):XOk P (xEnd1 T):=by
 intro rd ops i f st o outs ho hw h
 have hadd:∀ (b o n:Nat),Addr.add ⟨b,o,none⟩ n=⟨b,o+n,none⟩:=fun b o n=>by unfold Addr.add;split<;>simp_all
 unfold xEnd1 at h
 split at h
 ·rename_i t x lo hx
  split at h
  ·rename_i ti hti
   split at h
   ·rename_i e hd
    split at h
    ·rename_i j hj
     split at h
     ·rename_i id off len sz ex hxv
      split at h
      ·rename_i hc
       simp only [Bool.and_eq_true] at hc
       obtain⟨hsz,hlo⟩:=hc
       have hsz:=Nat.eq_of_beq_eq_true hsz
       subst hsz
       have hlo:natOf (Operand.av f.ts lo)=some len:=by
        split at hlo
        ·rename_i l hl;rw[hl,Nat.eq_of_beq_eq_true hlo]
        ·cases hlo
       cases h
       refine Ac.Jj ho hw (fun c hc=>by rw[hx] at hc;cases hc) fun φ w a h2 h3=>?_
       have hρ:=Bm h3.ts
       have hxx:=hρ x
       rw[hxv] at hxx
       obtain⟨cap,hv,hid,hcap,hex,hbnd⟩:=hxx.Dy
       have hb:=Cj (P:=P) (s:=true) (len:=len) (cap:=cap) (m:=cap) (lo:=some lo) (hi:=none) (mx:=none) hρ (by simpa[natOr] using hlo) rfl (.inl ⟨rfl,rfl⟩) (Nat.le_refl _) hcap (Nat.le_refl _) w
       simp only [Option.map_some,Option.map_none] at hb
       have hrun:(execOp a.eval o).run P w=.ok (.value (.slice (if cap=len then some ⟨(φ.f id).b,(φ.f id).o+off,none⟩ else some ⟨(φ.f id).b,(φ.f id).o+(off+len*j.size),none⟩) 0 (cap-len))) w:=by
        simp only [execOp,hx,Option.map_some,Option.map_none,Instr.sliceAt,Sem.run_bind,Ao hT hti,hd,Result.andThen,Instr.slice,hv,hb,Av hT hj,Sem.run_pure]
        by_cases hl:cap=len
        ·simp[hl]
        ·simp[hl,hadd,Nat.add_assoc]
       by_cases hl:cap=len
       ·rw[if_pos hl] at hrun
        have hn:=Rel.name h2 ⟨(φ.f id).b,(φ.f id).o+off,(φ.f id).n⟩
        refine⟨_,_,φ.push ⟨(φ.f id).b,(φ.f id).o+off,(φ.f id).n⟩,w,_,List.mem_singleton.2 rfl,.inl hrun,?_,hn.1,φ.Aw _,hn.2⟩
        have hs:=VR.sl (φ:=φ.push ⟨(φ.f id).b,(φ.f id).o+off,(φ.f id).n⟩) φ.n 0 0 j.size false 0 (by rw[Fi.Js];omega) (Nat.le_refl _) (fun h=>by cases h) (by rw[Fi.Ai];simp only;omega)
        rw[Fi.Ai] at hs
        rw[←h2.n,hl,Nat.sub_self]
        exact hs
       ·rw[if_neg hl] at hrun
        have hn:=Rel.name h2 ⟨(φ.f id).b,(φ.f id).o+(off+len*j.size),(φ.f id).n⟩
        refine⟨_,_,φ.push ⟨(φ.f id).b,(φ.f id).o+(off+len*j.size),(φ.f id).n⟩,w,_,List.mem_singleton.2 rfl,.inl hrun,?_,hn.1,φ.Aw _,hn.2⟩
        have hs:=VR.sl (φ:=φ.push ⟨(φ.f id).b,(φ.f id).o+(off+len*j.size),(φ.f id).n⟩) φ.n 0 0 j.size false (cap-len) (by rw[Fi.Js];omega) (Nat.zero_le _) (fun h=>by cases h) (by
         rw[Fi.Ai]
         have:len*j.size+(cap-len)*j.size=cap*j.size:=by rw[←Nat.add_mul];congr 1;omega
         simp only;omega)
        rw[Fi.Ai] at hs
        rw[←h2.n]
        exact hs
      ·cases h
     ·cases h
    ·cases h
   ·cases h
  ·cases h
 ·cases h
end
end Go.Ev
