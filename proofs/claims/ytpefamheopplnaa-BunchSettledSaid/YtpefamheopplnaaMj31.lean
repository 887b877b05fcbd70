/- Own work of the verifier of watercress: FzSt2. -/
import Derived.Test.YtpefamheopplnaaMj30
import Derived.Test.YtpefamheopplnaaMj26
import Derived.Test.YtpefamheopplnaaMj21
import Derived.Test.YtpefamheopplnaaMj11
set_option linter.unusedVariables false
set_option linter.unusedSimpArgs false
namespace Go.Fz
open Go.Proofs
set_option maxRecDepth 100000
set_option linter.unusedVariables false
section
variable {P : Program} {T : Ti}
theorem AnyE.sto2 (hT : TOk P T) {rd : Option Nat} {ops : Array Oper} {M : List Nat} {K : Fm → St → Prop} {fuel : Nat} {pend : List (Nat × AV)} {listed : Array Bool} {f : Fm} {st : St} {j t id off : Nat} {u v : Int} {G : List AV}
    (hj : onlyD ops M pend listed = some (j,[])) (ha : stoAt ops j f = some (t,.ptr id off,.agg [iV u,iV v])) (hb : sizeB T t 2 = true) (hx : st.h.get id = some (.cells none false G)) (hl : off + 2 ≤ G.length)
    (h : ∀ G',G' = (G.set off (iV u)).set (off + 1) (iV v) → AnyE P T ops M rd K fuel [] (listed.setIfInBounds j true) (putAt ops j f undA) ⟨st.h.set id (.cells none false G'),st.n⟩) : AnyE P T ops M rd K (fuel + 1) pend listed f st := fun k1 k2 k3 => by
  have h := h _ rfl
  unfold stoAt at ha
  split at ha
  · cases ha
  · rename_i o ho
    split at ha
    · rename_i hw
      split at ha
      · rename_i t' p x hop
        simp only [Option.some.injEq,Prod.mk.injEq] at ha
        obtain ⟨rfl,e2,e3⟩ := ha
        have hput : ∀ v,putAt ops j f v = f.put o.dst v := fun v => by simp [putAt,ho]
        rw [hput] at h
        have hst : storeO T st (Operand.av f.ts) o = some ⟨st.h.set id (.cells none false ((G.set off (iV u)).set (off + 1) (iV v))), st.n⟩ := by
          unfold sizeB at hb
          split at hb
          · rename_i ti hti
            have hsz := Nat.eq_of_beq_eq_true hb
            have h1 : (AV.agg [iV u,iV v]).cells = [iV u,iV v] := rfl
            have h2 : ∀ z : Int,(iV z).one = true := fun _ => rfl
            have h3 : ∀ z : Int,(iV z).norm = iV z := fun _ => rfl
            simp only [storeO,hop,storeA,e2,e3,ptrOf,hti,hx,h1,hsz,List.length_cons,List.length_nil,List.map_cons,List.map_nil,h3,List.all_cons,h2,List.all_nil]
            rw [if_pos ⟨trivial,by omega,by simp,by omega⟩]
            rfl
          · cases hb
        unfold onlyD at hj
        split at hj
        · rename_i j' hrd
          split at hj
          · rename_i o1 ho1
            split at hj
            · rename_i hnl
              simp only [Option.some.injEq,Prod.mk.injEq] at hj
              obtain ⟨rfl,hd⟩ := hj
              refine AnyE.one j' ho (by rw [hrd]; exact Nat.beq_refl j') [] hd (OpsW.store hT ho hw hst (.nil ⟨⟨undA,rfl⟩,(show PendOk T ops [] (f.put o.dst undA) _ from fun p hp => absurd hp List.not_mem_nil),h⟩)) k1 k2 k3
            · cases hj
          · cases hj
        · cases hj
      · cases ha
    · cases ha
end
set_option maxHeartbeats 16000000 in
theorem st_2 (d : DayD) (a b e : Int) (NX : Nat) (fx : Nat → Nat) (M : Nat) (hM : M < 100000) (F S : Nat → Nat → Int) (n : Nat) (g : Nat → AV) (O : Ar) (hO : O = std) (X0 : AV) (hday : Pure Try.prog 19 [dayV d] (dayV d)) (hf : Pure Try.prog 27 [dayV d] (.tup [X0, iV e])) (h : AllP (fun p => g p.1 = p.2) [(1, .lit (.int .u16 a)), (2, .lit (.int .u8 b)), (3, .ptr 0 0)]) :
    SW Try.prog none (nthC 2 (bodyF Try.f12)) (midK 198 [(1,.lit (.int .u16 a)),(2,.lit (.int .u8 b)),(3,.ptr 0 0),(7,X0),(8,iV e)] ⟨[(0,.cells none false (dayC d))],1⟩) ⟨⟨198,g⟩,[]⟩ ⟨[(0,.cells none false (dayC d))],1⟩ := by
  obtain ⟨g1,g2,g3,_⟩ := h
  simp only at g1 g2 g3
  rw [← updT_self g1,← updT_self g2,← updT_self g3]
  refine SW.run tok hO (by cbv <;> rfl) (by trivial) ?_
  refine OpsW.callP hday (by cbv <;> rfl) ?_
  refine OpsW.run tok hO (by cbv <;> rfl) (by trivial) ?_
  refine OpsW.callP hf (by cbv <;> rfl) ?_
  refine OpsW.run tok hO (by cbv <;> rfl) (by trivial) ?_
  exact ⟨rfl,_,rfl,⟨rfl,rfl,rfl,rfl,rfl,trivial⟩,rfl⟩
set_option maxHeartbeats 16000000 in
theorem st_3 (d : DayD) (a b e : Int) (NX : Nat) (fx : Nat → Nat) (M : Nat) (hM : M < 100000) (F S : Nat → Nat → Int) (n : Nat) (g : Nat → AV) (O : Ar) (hO : O = std) (X0 : AV) (hl : Pure Try.prog 46 [dayV d] (trsV M d.nw d.nl F S)) (h : AllP (fun p => g p.1 = p.2) [(1, .lit (.int .u16 a)), (2, .lit (.int .u8 b)), (3, .ptr 0 0), (7, X0), (8, iV e)]) :
    SW Try.prog none (nthC 3 (bodyF Try.f12)) (midK 198 [(1,.lit (.int .u16 a)),(2,.lit (.int .u8 b)),(3,.ptr 0 0),(7,X0),(8,iV e),(9,trsV M d.nw d.nl F S)] ⟨[(0,.cells none false (dayC d))],1⟩) ⟨⟨198,g⟩,[]⟩ ⟨[(0,.cells none false (dayC d))],1⟩ := by
  obtain ⟨g1,g2,g3,g7,g8,_⟩ := h
  simp only at g1 g2 g3 g7 g8
  rw [← updT_self g1,← updT_self g2,← updT_self g3,← updT_self g7,← updT_self g8]
  refine SW.run tok hO (by cbv <;> rfl) (by trivial) ?_
  refine OpsW.callP hl (by cbv <;> rfl) ?_
  refine OpsW.run tok hO (by cbv <;> rfl) (by trivial) ?_
  exact ⟨rfl,_,rfl,⟨rfl,rfl,rfl,rfl,rfl,rfl,trivial⟩,rfl⟩
set_option maxHeartbeats 16000000 in
theorem st_4z (d : DayD) (a b e : Int) (NX : Nat) (fx : Nat → Nat) (M : Nat) (hM : M < 100000) (F S : Nat → Nat → Int) (n : Nat) (g : Nat → AV) (O : Ar) (hO : O = std) (X0 : AV) (haw : Pure Try.prog 17 [] (.lit (.bool true))) (hM0 : M = 0) (h : AllP (fun p => g p.1 = p.2) [(1, .lit (.int .u16 a)), (2, .lit (.int .u8 b)), (3, .ptr 0 0), (7, X0), (8, iV 11), (9, trsV M d.nw d.nl F S)]) :
    SW Try.prog none (restC 4 (bodyF Try.f12)) (retQ T Try.f12 (fun v st' => Eqv (frz st'.h (fun _ => true) 3 v) (.lit (.bool true)))) ⟨⟨198,g⟩,[]⟩ ⟨[(0,.cells none false (dayC d))],1⟩ := by
  subst hM0
  have hz : O.cmp .eql (Int.ofNat 0) 0 = true := by subst hO; rfl
  have hq : O.cmp .eql 11 11 = true := by subst hO; rfl
  obtain ⟨g1,g2,g3,g7,g8,g9,_⟩ := h
  simp only at g1 g2 g3 g7 g8 g9
  rw [← updT_self g1,← updT_self g2,← updT_self g3,← updT_self g7,← updT_self g8,← updT_self g9]
  refine SW.seq ?_
  refine SW.seqRun tok hO (by cbv <;> rfl) (by trivial) ?_
  refine SW.condS (by cbv <;> rfl) (fun _ => ?_) (fun h => absurd (show true = false from hz.symm.trans h) (by decide))
  refine SW.seqRun tok hO (by cbv <;> rfl) (by trivial) ?_
  refine OpsW.splitG (by cbv <;> rfl) (fun _ => ?_) (fun h => absurd (show true = false from hq.symm.trans h) (by decide))
  refine OpsW.run tok hO (by cbv <;> rfl) (by trivial) ?_
  refine OpsW.callP haw (by cbv <;> rfl) ?_
  refine OpsW.run tok hO (by cbv <;> rfl) (by trivial) ?_
  exact SW.ret ⟨_,_,rfl,rfl,Eqv.refl _⟩
set_option maxHeartbeats 16000000 in
theorem st_4 (d : DayD) (a b e : Int) (NX : Nat) (fx : Nat → Nat) (M : Nat) (hM : M < 100000) (F S : Nat → Nat → Int) (n : Nat) (g : Nat → AV) (O : Ar) (hO : O = std) (X0 : AV) (hM0 : M ≠ 0) (h : AllP (fun p => g p.1 = p.2) [(1, .lit (.int .u16 a)), (2, .lit (.int .u8 b)), (3, .ptr 0 0), (7, X0), (8, iV e), (9, trsV M d.nw d.nl F S)]) :
    SW Try.prog none (nthC 4 (bodyF Try.f12)) (midK 198 [(1,.lit (.int .u16 a)),(2,.lit (.int .u8 b)),(3,.ptr 0 0),(7,X0),(8,iV e),(9,trsV M d.nw d.nl F S)] ⟨[(0,.cells none false (dayC d))],1⟩) ⟨⟨198,g⟩,[]⟩ ⟨[(0,.cells none false (dayC d))],1⟩ := by
  have hz : O.cmp .eql (Int.ofNat M) 0 = false := by subst hO; simpa [std] using hM0
  obtain ⟨g1,g2,g3,g7,g8,g9,_⟩ := h
  simp only at g1 g2 g3 g7 g8 g9
  rw [← updT_self g1,← updT_self g2,← updT_self g3,← updT_self g7,← updT_self g8,← updT_self g9]
  refine SW.seqRun tok hO (by cbv <;> rfl) (by trivial) ?_
  refine SW.condS (by cbv <;> rfl) (fun h => absurd (show false = true from hz.symm.trans h) (by decide)) (fun _ => SW.skip ?_)
  exact ⟨rfl,_,rfl,⟨rfl,rfl,rfl,rfl,rfl,rfl,trivial⟩,rfl⟩
set_option maxHeartbeats 16000000 in
theorem st_5 (d : DayD) (a b e : Int) (NX : Nat) (fx : Nat → Nat) (M : Nat) (hM : M < 100000) (F S : Nat → Nat → Int) (n : Nat) (g : Nat → AV) (O : Ar) (hO : O = std) (X0 : AV) (hnw : d.nw ≤ 4) (hn : O.bin .and .i64 (O.conv .i64 b) (O.bin .sub .i64 (O.bin .shl .i64 1 (O.conv .u64 (Int.ofNat d.nw))) 1) = Int.ofNat n) (h : AllP (fun p => g p.1 = p.2) [(1, .lit (.int .u16 a)), (2, .lit (.int .u8 b)), (3, .ptr 0 0), (7, X0), (8, iV e), (9, trsV M d.nw d.nl F S)]) :
    SW Try.prog none (nthC 5 (bodyF Try.f12)) (midK 198 [(1,.lit (.int .u16 a)),(3,.ptr 0 0),(7,X0),(8,iV e),(9,trsV M d.nw d.nl F S),(10,iV (Int.ofNat n))] ⟨[(0,.cells none false (dayC d))],1⟩) ⟨⟨198,g⟩,[]⟩ ⟨[(0,.cells none false (dayC d))],1⟩ := by
  have hcv : 0 ≤ O.conv .u64 (Int.ofNat d.nw) := by
    subst hO
    show 0 ≤ wrp .u64 (d.nw : Int)
    rw [wrp_in (by simp only [IntKind.lo]; omega) (by simp only [IntKind.hi]; omega)]; omega
  obtain ⟨g1,g2,g3,g7,g8,g9,_⟩ := h
  simp only at g1 g2 g3 g7 g8 g9
  rw [← updT_self g1,← updT_self g2,← updT_self g3,← updT_self g7,← updT_self g8,← updT_self g9]
  refine SW.run tok hO (by cbv <;> rfl) (by first | exact hcv | exact ⟨hcv,trivial⟩) ?_
  exact ⟨rfl,_,rfl,⟨rfl,rfl,rfl,rfl,rfl,congrArg (fun z => AV.lit (.int .i64 z)) hn,trivial⟩,rfl⟩
set_option maxHeartbeats 16000000 in
theorem st_6 (d : DayD) (a b e : Int) (NX : Nat) (fx : Nat → Nat) (M : Nat) (hM : M < 100000) (F S : Nat → Nat → Int) (n : Nat) (g : Nat → AV) (O : Ar) (hO : O = std) (X0 : AV) (h : AllP (fun p => g p.1 = p.2) [(1, .lit (.int .u16 a)), (3, .ptr 0 0), (7, X0), (8, iV e), (9, trsV M d.nw d.nl F S), (10, iV (Int.ofNat n))]) :
    SW Try.prog none (nthC 6 (bodyF Try.f12)) (midK 198 [(1,.lit (.int .u16 a)),(3,.ptr 0 0),(7,X0),(8,iV e),(9,trsV M d.nw d.nl F S),(10,iV (Int.ofNat n)),(11,.lit (.bool true))] ⟨[(0,.cells none false (dayC d))],1⟩) ⟨⟨198,g⟩,[]⟩ ⟨[(0,.cells none false (dayC d))],1⟩ := by
  obtain ⟨g1,g3,g7,g8,g9,g10,_⟩ := h
  simp only at g1 g3 g7 g8 g9 g10
  rw [← updT_self g1,← updT_self g3,← updT_self g7,← updT_self g8,← updT_self g9,← updT_self g10]
  refine SW.run tok hO (by cbv <;> rfl) (by trivial) ?_
  exact ⟨rfl,_,rfl,⟨rfl,rfl,rfl,rfl,rfl,rfl,rfl,trivial⟩,rfl⟩
set_option maxHeartbeats 16000000 in
theorem st_7 (d : DayD) (a b e : Int) (NX : Nat) (fx : Nat → Nat) (M : Nat) (hM : M < 100000) (F S : Nat → Nat → Int) (n : Nat) (g : Nat → AV) (O : Ar) (hO : O = std) (X0 : AV) (hnl : d.nl ≤ 4) (h : AllP (fun p => g p.1 = p.2) [(1, .lit (.int .u16 a)), (3, .ptr 0 0), (7, X0), (8, iV e), (9, trsV M d.nw d.nl F S), (10, iV (Int.ofNat n)), (11, .lit (.bool true))]) :
    SW Try.prog none (nthC 7 (bodyF Try.f12)) (midK 198 [(1,.lit (.int .u16 a)),(3,.ptr 0 0),(7,X0),(8,iV e),(9,trsV M d.nw d.nl F S),(10,iV (Int.ofNat n)),(11,.lit (.bool (allN d.nl fun j => decide (d.llo j = d.lhi j))))] ⟨[(0,.cells none false (dayC d))],1⟩) ⟨⟨198,g⟩,[]⟩ ⟨[(0,.cells none false (dayC d))],1⟩ := by
  have hnat : ∀ i : Nat,O.nat (Int.ofNat i) = i := fun i => by subst hO; rfl
  obtain ⟨kb,hkb⟩ : ∃ kb : Nat → Bool,kb = fun i => allN i fun j => decide (d.llo j = d.lhi j) := ⟨_,rfl⟩
  have hk0 : kb 0 = true := by rw [hkb]; exact allN_true fun j hj => absurd hj (Nat.not_lt_zero j)
  have hkt : ∀ i, kb i = true → kb (i + 1) = decide (d.llo i = d.lhi i) := fun i hi => by
    rw [hkb] at *
    cases hd : decide (d.llo i = d.lhi i) with
    | false => exact allN_false (Nat.lt_succ_self i) hd
    | true =>
      refine allN_true fun j hj => ?_
      rcases Nat.lt_succ_iff_lt_or_eq.1 hj with h | rfl
      · exact of_decide_eq_true hi j h
      · exact hd
  have hkf : ∀ i, kb i = false → kb (i + 1) = false := fun i hi => by
    cases hn : kb (i + 1) with
    | false => rfl
    | true =>
      rw [hkb] at hi hn
      have h1 : ∀ j,j < i + 1 → decide (d.llo j = d.lhi j) = true := of_decide_eq_true hn
      have h2 : (allN i fun j => decide (d.llo j = d.lhi j)) = false := hi
      rw [allN_true fun j hj => h1 j (by omega)] at h2; cases h2
  show SW _ _ _ (midK 198 [(1,.lit (.int .u16 a)),(3,.ptr 0 0),(7,X0),(8,iV e),(9,trsV M d.nw d.nl F S),(10,iV (Int.ofNat n)),(11,.lit (.bool ((fun i => allN i fun j => decide (d.llo j = d.lhi j)) d.nl)))] ⟨[(0,.cells none false (dayC d))],1⟩) _ _
  rw [← hkb]
  obtain ⟨g1,g3,g7,g8,g9,g10,g11,_⟩ := h
  simp only at g1 g3 g7 g8 g9 g10 g11
  rw [← updT_self g1,← updT_self g3,← updT_self g7,← updT_self g8,← updT_self g9,← updT_self g10,← updT_self g11]
  refine SW.seqRun tok hO (by cbv <;> rfl) (by trivial) ?_
  refine (SW.block (SW.loopF (fun i : Nat => ⟨⟨198, getT [(1, .lit (.int .u16 a)), (3, .ptr 0 0), (7, X0), (8, iV e), (9, trsV M d.nw d.nl F S), (10, iV (Int.ofNat n)), (11, .lit (.bool (kb i))), (12, iV (Int.ofNat i))]⟩, []⟩) (fun _ => ⟨[(0, .cells none false (dayC d))], 1⟩) (fun i => d.nl - i) (fun i => i ≤ d.nl) 0
    (fun _ => rfl) (Nat.zero_le _) (Weak.by rfl rfl (by simp) (Nat.le_refl _) (Nat.le_refl _) ⟨⟨rfl,.inl rfl⟩,⟨rfl,.inl rfl⟩,⟨rfl,.inl rfl⟩,⟨rfl,.inl rfl⟩,⟨rfl,.inl rfl⟩,⟨rfl,.inl rfl⟩,⟨by rw [hk0]; rfl,.inl rfl⟩,⟨rfl,.inl rfl⟩,trivial⟩ ⟨⟨rfl,by show 0 < 1; omega,.inl rfl⟩,trivial⟩) fun i hi => ?_))
  show SW _ _ _ _ ⟨⟨198,getT [(1,.lit (.int .u16 a)),(3,.ptr 0 0),(7,X0),(8,iV e),(9,trsV M d.nw d.nl F S),(10,iV (Int.ofNat n)),(11,.lit (.bool (kb i))),(12,iV (Int.ofNat i))]⟩,[]⟩ ⟨[(0,.cells none false (dayC d))],1⟩
  obtain ⟨kv,hkv⟩ : ∃ kv,kb i = kv := ⟨_,rfl⟩
  rw [hkv]
  refine SW.seq ?_
  refine SW.seqRun tok hO (by cbv <;> rfl) (by trivial) ?_
  refine SW.condS (by cbv <;> rfl) (fun h => SW.skip ?_) (fun h => SW.exit ?_)
  · have hlt : i < d.nl := by
      have : (Int.ofNat i : Int) < Int.ofNat d.nl := by subst hO; simpa [std] using h
      exact Int.ofNat_lt.1 this
    have hci : 0 ≤ Int.ofNat i ∧ Int.ofNat i < (d.nl : Int) := ⟨Int.natCast_nonneg i,Int.ofNat_lt.2 hlt⟩
    have hcmp : ∀ B, O.cmp .eql (d.llo (O.nat (Int.ofNat i))) (d.lhi (O.nat (Int.ofNat i))) = B → decide (d.llo i = d.lhi i) = B := fun B hB => by
      rw [hnat] at hB
      rw [← hB]; subst hO; rfl
    refine SW.seq (SW.block ?_)
    cases kv with
    | false =>
      have hs := hkf i hkv
      refine SW.runDN tok mixed hO 5 (by kernel_rfl) (by cbv <;> rfl) (by trivial) ?_
      refine AnyE.runN tok hO 5 (by rfl) (by cbv <;> rfl) (by trivial) ?_
      refine AnyE.runN tok hO 5 (by rfl) (by cbv <;> rfl) (by trivial) ?_
      refine AnyE.run tok hO (by rfl) (by cbv <;> rfl) (by trivial) ?_
      refine AnyE.effK tok hO (by cbv <;> rfl) (by cbv <;> rfl) (by trivial) ?_ ?_
      · exact (by repeat (first | exact trivial | refine And.intro (by first | exact lv_of hO (by cbv <;> rfl) (by trivial) | (cbv <;> rfl)) ?_))
      refine AnyE.done (by rfl) ?_
      refine SW.run tok hO (by cbv <;> rfl) (by trivial) ?_
      exact ⟨i + 1,by omega,hlt,Weak.by rfl rfl (by simp) (Nat.le_refl _) (Nat.le_refl _) ⟨⟨rfl,.inl rfl⟩,⟨rfl,.inl rfl⟩,⟨rfl,.inl rfl⟩,⟨rfl,.inl rfl⟩,⟨rfl,.inl rfl⟩,⟨rfl,.inl rfl⟩,⟨by rw [hs]; rfl,.inl rfl⟩,⟨inc_ok hO (by omega),.inl rfl⟩,trivial⟩ ⟨⟨rfl,by show 0 < 1; omega,.inl rfl⟩,trivial⟩⟩
    | true =>
      have hs := hkt i hkv
      refine SW.runDN tok mixed hO 5 (by kernel_rfl) (by cbv <;> rfl) (by repeat (first | exact trivial | exact hci | refine ⟨?_,?_⟩)) ?_
      refine AnyE.runN tok hO 5 (by rfl) (by cbv <;> rfl) (by repeat (first | exact trivial | exact hci | refine ⟨?_,?_⟩)) ?_
      refine AnyE.runN tok hO 5 (by rfl) (by cbv <;> rfl) (by repeat (first | exact trivial | exact hci | refine ⟨?_,?_⟩)) ?_
      refine AnyE.run tok hO (by rfl) (by cbv <;> rfl) (by repeat (first | exact trivial | exact hci | refine ⟨?_,?_⟩)) ?_
      refine AnyE.dec tok hO (by rfl) (by cbv <;> rfl) (by repeat (first | exact trivial | exact hci | refine ⟨?_,?_⟩)) (fun h5 => ?_) (fun h5 => ?_) <;> refine AnyE.run tok hO (by rfl) (by cbv <;> rfl) (by trivial) ?_
      all_goals
        refine AnyE.effK tok hO (by cbv <;> rfl) (by cbv <;> rfl) (by trivial) ?_ ?_
        · exact (by repeat (first | exact trivial | refine And.intro (by first | exact lv_of hO (by cbv <;> rfl) (by trivial) | (cbv <;> rfl)) ?_))
        refine AnyE.done (by rfl) ?_
        refine SW.run tok hO (by cbv <;> rfl) (by trivial) ?_
        exact ⟨i + 1,by omega,hlt,Weak.by rfl rfl (by simp) (Nat.le_refl _) (Nat.le_refl _) ⟨⟨rfl,.inl rfl⟩,⟨rfl,.inl rfl⟩,⟨rfl,.inl rfl⟩,⟨rfl,.inl rfl⟩,⟨rfl,.inl rfl⟩,⟨rfl,.inl rfl⟩,⟨by rw [hs,hcmp _ h5]; rfl,.inl rfl⟩,⟨inc_ok hO (by omega),.inl rfl⟩,trivial⟩ ⟨⟨rfl,by show 0 < 1; omega,.inl rfl⟩,trivial⟩⟩
  · have hge : i = d.nl := by
      have : ¬ (Int.ofNat i : Int) < Int.ofNat d.nl := by subst hO; simpa [std] using h
      have h2 : ¬ i < d.nl := fun h => this (Int.ofNat_lt.2 h)
      omega
    subst hge
    exact ⟨rfl,_,rfl,⟨rfl,rfl,rfl,rfl,rfl,rfl,by rw [hkv]; rfl,trivial⟩,rfl⟩
set_option maxHeartbeats 16000000 in
theorem st_8a (d : DayD) (a b e : Int) (NX : Nat) (fx : Nat → Nat) (M : Nat) (hM : M < 100000) (F S : Nat → Nat → Int) (n : Nat) (g : Nat → AV) (O : Ar) (hO : O = std) (X0 : AV) (haw : Pure Try.prog 17 [] (.lit (.bool true))) (hs : Pure Try.prog 49 [dayV d, trsV M d.nw d.nl F S, iV (Int.ofNat n)] (.lit (.bool false))) (h : AllP (fun p => g p.1 = p.2) [(1, .lit (.int .u16 a)), (3, .ptr 0 0), (7, X0), (8, iV 10), (9, trsV M d.nw d.nl F S), (10, iV (Int.ofNat n)), (11, .lit (.bool false))]) :
    SW Try.prog none (restC 8 (bodyF Try.f12)) (retQ T Try.f12 (fun v st' => Eqv (frz st'.h (fun _ => true) 3 v) (.lit (.bool true)))) ⟨⟨198,g⟩,[]⟩ ⟨[(0,.cells none false (dayC d))],1⟩ := by
  have hp : O.cmp .neq 10 0 = true := by subst hO; rfl
  have hq : O.cmp .eql 10 10 = true := by subst hO; rfl
  obtain ⟨g1,g3,g7,g8,g9,g10,g11,_⟩ := h
  simp only at g1 g3 g7 g8 g9 g10 g11
  rw [← updT_self g1,← updT_self g3,← updT_self g7,← updT_self g8,← updT_self g9,← updT_self g10,← updT_self g11]
  refine SW.seq ?_
  refine SW.seqRun tok hO (by cbv <;> rfl) (by trivial) ?_
  refine SW.condS (by cbv <;> rfl) (fun _ => ?_) (fun h => absurd (show true = false from hp.symm.trans h) (by decide))
  refine SW.seqRun tok hO (by cbv <;> rfl) (by trivial) ?_
  refine OpsW.splitG (by cbv <;> rfl) (fun _ => ?_) (fun h => absurd (show true = false from hq.symm.trans h) (by decide))
  refine OpsW.run tok hO (by cbv <;> rfl) (by trivial) ?_
  refine OpsW.callP hs (by cbv <;> rfl) ?_
  refine OpsW.run tok hO (by cbv <;> rfl) (by trivial) ?_
  refine OpsW.callP haw (by cbv <;> rfl) ?_
  refine OpsW.run tok hO (by cbv <;> rfl) (by trivial) ?_
  exact SW.ret ⟨_,_,rfl,rfl,Eqv.refl _⟩
set_option maxHeartbeats 16000000 in
theorem st_8b (d : DayD) (a b e : Int) (NX : Nat) (fx : Nat → Nat) (M : Nat) (hM : M < 100000) (F S : Nat → Nat → Int) (n : Nat) (g : Nat → AV) (O : Ar) (hO : O = std) (kn : Bool) (h : AllP (fun p => g p.1 = p.2) [(1, .lit (.int .u16 a)), (3, .ptr 0 0), (7, intsV NX false (fun i => Int.ofNat (fx i))), (8, iV 0), (9, trsV M d.nw d.nl F S), (10, iV (Int.ofNat n)), (11, .lit (.bool kn))]) :
    SW Try.prog none (nthC 8 (bodyF Try.f12)) (midK 198 [(1,.lit (.int .u16 a)),(3,.ptr 0 0),(7,intsV NX false (fun i => Int.ofNat (fx i))),(9,trsV M d.nw d.nl F S),(10,iV (Int.ofNat n))] ⟨[(0,.cells none false (dayC d))],1⟩) ⟨⟨198,g⟩,[]⟩ ⟨[(0,.cells none false (dayC d))],1⟩ := by
  have hz : O.cmp .neq 0 0 = false := by subst hO; rfl
  obtain ⟨g1,g3,g7,g8,g9,g10,g11,_⟩ := h
  simp only at g1 g3 g7 g8 g9 g10 g11
  rw [← updT_self g1,← updT_self g3,← updT_self g7,← updT_self g8,← updT_self g9,← updT_self g10,← updT_self g11]
  refine SW.seqRun tok hO (by cbv <;> rfl) (by trivial) ?_
  refine SW.condS (by cbv <;> rfl) (fun h => absurd (show false = true from hz.symm.trans h) (by decide)) (fun _ => SW.skip ?_)
  exact ⟨rfl,_,rfl,⟨rfl,rfl,rfl,rfl,rfl,trivial⟩,rfl⟩
set_option maxHeartbeats 16000000 in
theorem st_9 (d : DayD) (a b e : Int) (NX : Nat) (fx : Nat → Nat) (M : Nat) (hM : M < 100000) (F S : Nat → Nat → Int) (n : Nat) (g : Nat → AV) (O : Ar) (hO : O = std) (k0 : Nat) (hk : k0 < M) (hr : O.bin .rem .i64 (O.conv .i64 a) (Int.ofNat M) = Int.ofNat k0) (h : AllP (fun p => g p.1 = p.2) [(1, .lit (.int .u16 a)), (3, .ptr 0 0), (7, intsV NX false (fun i => Int.ofNat (fx i))), (9, trsV M d.nw d.nl F S), (10, iV (Int.ofNat n))]) :
    SW Try.prog none (nthC 9 (bodyF Try.f12)) (midK 198 [(3,.ptr 0 0),(7,intsV NX false (fun i => Int.ofNat (fx i))),(9,trsV M d.nw d.nl F S),(10,iV (Int.ofNat n)),(13,.ptr 1 0)] ⟨[(1,.cells none false [intsV d.nw false (F k0),intsV d.nl false (S k0)]),(0,.cells none false (dayC d))],2⟩) ⟨⟨198,g⟩,[]⟩ ⟨[(0,.cells none false (dayC d))],1⟩ := by
  have hnat : ∀ i : Nat,O.nat (Int.ofNat i) = i := fun i => by subst hO; rfl
  have hM0 : Int.ofNat M ≠ 0 := by
    have : (M : Int) ≠ 0 := by omega
    exact this
  have hc : 0 ≤ O.bin .rem .i64 (O.conv .i64 a) (Int.ofNat M) ∧ O.bin .rem .i64 (O.conv .i64 a) (Int.ofNat M) < (M : Int) := by rw [hr]; exact ⟨Int.natCast_nonneg k0,Int.ofNat_lt.2 hk⟩
  have hk2 : O.nat (O.bin .rem .i64 (O.conv .i64 a) (Int.ofNat M)) = k0 := by rw [hr,hnat]
  obtain ⟨g1,g3,g7,g9,g10,_⟩ := h
  simp only at g1 g3 g7 g9 g10
  rw [← updT_self g1,← updT_self g3,← updT_self g7,← updT_self g9,← updT_self g10]
  refine SW.run tok hO (by cbv <;> rfl) (by repeat (first | exact trivial | exact hc | exact hM0 | refine ⟨?_,?_⟩)) ?_
  refine ⟨rfl,_,rfl,⟨rfl,rfl,rfl,rfl,rfl,trivial⟩,?_⟩
  show (⟨[(1,.cells none false [intsV d.nw false (F (O.nat (O.bin .rem .i64 (O.conv .i64 a) (Int.ofNat M)))),intsV d.nl false (S (O.nat (O.bin .rem .i64 (O.conv .i64 a) (Int.ofNat M))))]),(0,.cells none false (dayC d))],2⟩ : St) = _
  rw [hk2]
set_option maxHeartbeats 16000000 in
theorem st_10 (d : DayD) (a b e : Int) (NX : Nat) (fx : Nat → Nat) (M : Nat) (hM : M < 100000) (F S : Nat → Nat → Int) (n : Nat) (g : Nat → AV) (O : Ar) (hO : O = std) (k0 : Nat) (h : AllP (fun p => g p.1 = p.2) [(3, .ptr 0 0), (7, intsV NX false (fun i => Int.ofNat (fx i))), (9, trsV M d.nw d.nl F S), (10, iV (Int.ofNat n)), (13, .ptr 1 0)]) :
    SW Try.prog none (nthC 10 (bodyF Try.f12)) (midK 198 [(3,.ptr 0 0),(7,intsV NX false (fun i => Int.ofNat (fx i))),(9,trsV M d.nw d.nl F S),(10,iV (Int.ofNat n)),(13,.ptr 1 0),(14,.ptr 2 0)] ⟨[(2,.cells none false (dayC d)),(1,.cells none false [intsV d.nw false (F k0),intsV d.nl false (S k0)]),(0,.cells none false (dayC d))],3⟩) ⟨⟨198,g⟩,[]⟩ ⟨[(1,.cells none false [intsV d.nw false (F k0),intsV d.nl false (S k0)]),(0,.cells none false (dayC d))],2⟩ := by
  obtain ⟨g3,g7,g9,g10,g13,_⟩ := h
  simp only at g3 g7 g9 g10 g13
  rw [← updT_self g3,← updT_self g7,← updT_self g9,← updT_self g10,← updT_self g13]
  refine SW.run tok hO (by cbv <;> rfl) (by trivial) ?_
  exact ⟨rfl,_,rfl,⟨rfl,rfl,rfl,rfl,rfl,rfl,trivial⟩,rfl⟩
set_option maxHeartbeats 16000000 in
theorem st_11 (d : DayD) (a b e : Int) (NX : Nat) (fx : Nat → Nat) (M : Nat) (hM : M < 100000) (F S : Nat → Nat → Int) (n : Nat) (g : Nat → AV) (O : Ar) (hO : O = std) (k0 : Nat) (GW : List AV) (hGW : GW = flatG 2 (womC d) d.nw) (h0 : 0 < d.nw) (hnw : d.nw < 1048576) (h : AllP (fun p => g p.1 = p.2) [(3, .ptr 0 0), (7, intsV NX false (fun i => Int.ofNat (fx i))), (9, trsV M d.nw d.nl F S), (10, iV (Int.ofNat n)), (13, .ptr 1 0), (14, .ptr 2 0)]) :
    SW Try.prog none (nthC 11 (bodyF Try.f12)) (midK 198 [(3,.ptr 0 0),(7,intsV NX false (fun i => Int.ofNat (fx i))),(9,trsV M d.nw d.nl F S),(10,iV (Int.ofNat n)),(13,.ptr 1 0),(14,.ptr 2 0)] ⟨[(4,.cells none false GW),(3,.cells none false []),(2,.cells none false [iV d.hand,iV d.flat,.sl 4 0 d.nw 2 false,lotsV d,cntsV d]),(1,.cells none false [intsV d.nw false (F k0),intsV d.nl false (S k0)]),(0,.cells none false (dayC d))],5⟩) ⟨⟨198,g⟩,[]⟩ ⟨[(2,.cells none false (dayC d)),(1,.cells none false [intsV d.nw false (F k0),intsV d.nl false (S k0)]),(0,.cells none false (dayC d))],3⟩ := by
  obtain ⟨g3,g7,g9,g10,g13,g14,_⟩ := h
  simp only at g3 g7 g9 g10 g13 g14
  rw [← updT_self g3,← updT_self g7,← updT_self g9,← updT_self g10,← updT_self g13,← updT_self g14]
  refine SW.runN tok hO 3 (by cbv <;> rfl) (by trivial) ?_
  refine OpsW.appA tok (by cbv <;> rfl) (append_emptyG (by kernel_rfl) (by rfl) hnw h0 (fun i k => womC_one d i k) hGW) ?_
  refine OpsW.run tok hO (by cbv <;> rfl) (by trivial) ?_
  exact ⟨rfl,_,rfl,⟨rfl,rfl,rfl,rfl,rfl,rfl,trivial⟩,rfl⟩
end Go.Fz
