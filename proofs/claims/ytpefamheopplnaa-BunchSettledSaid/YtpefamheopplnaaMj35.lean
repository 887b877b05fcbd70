/- Own work of the verifier of watercress: FzSt5, FzL2, FzO3, FzL3a. -/
import Derived.Test.YtpefamheopplnaaMj34
import Derived.Test.YtpefamheopplnaaMj21
import Derived.Test.YtpefamheopplnaaMj30
import Derived.Test.YtpefamheopplnaaMj16
import Derived.Test.YtpefamheopplnaaMj17
import Derived.Test.YtpefamheopplnaaMj14
set_option linter.unusedVariables false
set_option linter.unusedSimpArgs false
namespace Go.Fz
open Go.Proofs
set_option maxRecDepth 100000
set_option linter.unusedVariables false
section
variable {P : Program}
theorem AllP.mk2 {α : Type} {p : α → Prop} : ∀ {l : List α}, (∀ a ∈ l, p a) → AllP p l
  | [],_ => trivial
  | a :: l,h => ⟨h a List.mem_cons_self,AllP.mk2 fun b hb => h b (List.mem_cons_of_mem _ hb)⟩
theorem SW.frzK {rd : Option Nat} {c : Code} {Q : Exit → Fm → St → Prop} {len : Nat} {g : Nat → AV} {S S2 : St} {l : List (Nat × AV)} (D : Nat → Bool) (hf : freeB S.h D = true) (hS : S.keepZ D 3 = S2) (hl : AllP (fun p => frz S.h D 3 p.2 = p.2) l) (h : AllP (fun p => g p.1 = p.2) l)
    (H : ∀ g',AllP (fun p => g' p.1 = p.2) l → SW P rd c Q ⟨⟨len,g'⟩,[]⟩ S2) : SW P rd c Q ⟨⟨len,g⟩,[]⟩ S := by
  refine SW.freezeZ D 3 hf ?_
  show SW P rd c Q ⟨⟨len,fun i => frz S.h D 3 (g i)⟩,[]⟩ (S.keepZ D 3)
  rw [hS]
  refine H _ (AllP.mk2 fun p hp => ?_)
  show frz S.h D 3 (g p.1) = p.2
  rw [h.ok p hp]
  exact hl.ok p hp
end
theorem tried_fin : ∀ (b : Fin 256) (n : Fin 5),∃ k : Fin 16,std.bin .and .i64 (std.conv .i64 (b.1 : Int)) (std.bin .sub .i64 (std.bin .shl .i64 1 (std.conv .u64 (Int.ofNat n.1))) 1) = Int.ofNat k.1 ∧ k.1 < 2 ^ n.1 := by decide +kernel
theorem ris_inc : ∀ many : Fin 6,∀ l ∈ risL many.1,∀ i : Fin 5,i.1 < l.length → 0 < i.1 → l.getD (i.1 - 1) 0 < l.getD i.1 0 := by decide +kernel
set_option maxHeartbeats 64000000 in
theorem bunchSettled_ok (haw : Pure Try.prog 17 [] (.lit (.bool true))) (d : DayD) (a b : Int) (ha0 : 0 ≤ a) (ha1 : a ≤ 65535) (hb0 : 0 ≤ b) (hb1 : b ≤ 255) :
    Pure Try.prog 12 [dayV d,.lit (.int .u16 a),.lit (.int .u8 b)] (.lit (.bool true)) := by
  obtain ⟨O,hO⟩ : ∃ O : Ar,O = std := ⟨_,rfl⟩
  refine pure_of_body tok 3 Try.func12 en12 rfl ⟨dayV_below d,Below.lit,Below.lit,trivial⟩ Below.lit ?_
  refine SW.seqRun tok hO (by cbv <;> rfl) (by trivial) ?_
  refine SW.seq ?_
  refine SW.seqRun tok hO (by cbv <;> rfl) (by trivial) ?_
  have call := ready_ok d
  generalize hR : d.readyB = r at call
  refine OpsW.callP call (by cbv <;> rfl) ?_
  have hnot : O.not r = !r := by subst hO; rfl
  refine OpsW.run tok hO (by cbv <;> rfl) (by trivial) ?_
  refine SW.condS (by cbv <;> rfl) (fun h1 => ?_) (fun h1 => SW.skip ?_)
  · refine SW.seqRun tok hO (by cbv <;> rfl) (by trivial) ?_
    refine OpsW.callP haw (by cbv <;> rfl) ?_
    refine OpsW.run tok hO (by cbv <;> rfl) (by trivial) ?_
    exact SW.ret ⟨_,_,rfl,rfl,Eqv.refl _⟩
  have hr : r = true := by have := hnot.symm.trans h1; simpa using this
  rw [hr] at hR
  obtain ⟨gd,_⟩ := ready_good hR
  have hF : d.faultN = 0 := by
    simp only [DayD.readyB,Bool.and_eq_true,decide_eq_true_eq] at hR; exact hR.2
  have hc : d.check = 0 := (check_eq d).trans hF
  have hnw := gd.nw
  have hnl := gd.nl
  have hncc := gd.nc
  have hpos := gd.pos
  have hsm : d.small := ⟨by omega,by omega,by omega⟩
  have hday := day_ok d (by omega) (by omega) (by omega)
  clear call hnot h1 hr hR
  have hMs : d.sN < 100000 := by
    have h1 := sel_len d
    have h2 := nT_in hc
    have h3 : (d.nT : Int) = d.manyL d.nl := by
      show ((d.manyL d.nl).toNat : Int) = _
      omega
    omega
  have hl : Pure Try.prog 46 [dayV d] (trsV d.sN d.nw d.nl (fun k => (d.sT k).fe) (fun k => (d.sT k).st)) := truths_ok d gd (nT_in hc).1 (nT_in hc).2
  have hfe := fewestA_ok d hsm hc
  obtain ⟨n, hn, hn2⟩ : ∃ n : Nat, O.bin .and .i64 (O.conv .i64 b) (O.bin .sub .i64 (O.bin .shl .i64 1 (O.conv .u64 (Int.ofNat d.nw))) 1) = Int.ofNat n ∧ n < 2 ^ d.nw := by
    obtain ⟨B,hB⟩ := Int.eq_ofNat_of_zero_le hb0
    obtain ⟨k,h1,h2⟩ := tried_fin ⟨B,by omega⟩ ⟨d.nw,by omega⟩
    refine ⟨k.1,?_,h2⟩
    subst hO; rw [hB]; exact h1
  by_cases ho : d.seen.outs = []
  · have hM : d.sN = 0 := (sel_nil hc).2 ho
    rw [show d.fewL = nl3 from if_pos ho,show d.fewN = 11 from if_pos ho] at hfe
    refine SW.seq ((st_2 d a b 11 0 (fun _ => 0) d.sN hMs (fun k => (d.sT k).fe) (fun k => (d.sT k).st) n _ O hO nl3 hday hfe ⟨rfl,rfl,rfl,trivial⟩).mono fun e f st hm => ?_)
    obtain ⟨rfl,g,rfl,h,rfl⟩ := hm
    refine SW.seq ((st_3 d a b 11 0 (fun _ => 0) d.sN hMs _ _ n _ O hO nl3 hl h).mono fun e f st hm => ?_)
    clear h; obtain ⟨rfl,g,rfl,h,rfl⟩ := hm
    exact st_4z d a b 11 0 (fun _ => 0) d.sN hMs _ _ n _ O hO nl3 haw hM h
  have hM0 : d.sN ≠ 0 := fun h => ho ((sel_nil hc).1 h)
  rw [show d.fewL = fewV (d.setQ d.seen.outs) d.nw from if_neg ho,show d.fewN = fewE (d.setQ d.seen.outs) d.nw from if_neg ho] at hfe
  have hset : Pure Try.prog 49 [dayV d, trsV d.sN d.nw d.nl (fun k => (d.sT k).fe) (fun k => (d.sT k).st), iV (Int.ofNat n)] (.sb (d.setQ d.seen.outs (selL (n : Int) 5))) := by
    have h1 := settle49_ok d hnw d.sN (fun k => (d.sT k).fe) (fun k => (d.sT k).st) (Int.ofNat n) hMs (fun k => (d.tally (d.sT k)).flats) (fun k => (d.tally (d.sT k)).hands) (fun k => (d.tally (d.sT k)).loose) (fun k => (d.tally (d.sT k)).spare) (fun k => d.bun (d.sT k)) (fun k => d.lef (d.sT k)) fun i hi => playN_ok' gd (sel_fit hc hi)
    rw [show setR (fun k => (d.tally (d.sT k)).flats) (fun k => (d.sT k).fe) (Int.ofNat n) d.nw d.sN = d.setQ d.seen.outs (selL (n : Int) 5) from (settle_same hc hn2).symm] at h1
    exact h1
  have hn32 : n < 32 := Nat.lt_of_lt_of_le hn2 (pow_le32 (by omega))
  have hsel : selL (n : Int) 5 ∈ risL d.nw := (oth_fin ⟨d.nw,by omega⟩ ⟨n,hn32⟩ hn2).1
  unfold fewV fewE at hfe
  cases hq : (risL d.nw).find? (d.setQ d.seen.outs) with
  | none =>
    rw [hq] at hfe
    have hfe2 : Pure Try.prog 27 [dayV d] (.tup [nl3,iV 10]) := hfe
    have hkn : (allN d.nl fun j => decide (d.llo j = d.lhi j)) = false := by
      cases hk : allN d.nl fun j => decide (d.llo j = d.lhi j) with
      | false => rfl
      | true =>
        obtain ⟨l,h1⟩ := known_settle hc fun i hi => of_decide_eq_true (of_decide_eq_true hk i hi)
        rw [hq] at h1; cases h1
    have hset2 : Pure Try.prog 49 [dayV d, trsV d.sN d.nw d.nl (fun k => (d.sT k).fe) (fun k => (d.sT k).st), iV (Int.ofNat n)] (.lit (.bool false)) := hset.res (Eqv.lit (by
      have := List.find?_eq_none.1 hq _ hsel
      simpa using this))
    refine SW.seq ((st_2 d a b 10 0 (fun _ => 0) d.sN hMs (fun k => (d.sT k).fe) (fun k => (d.sT k).st) n _ O hO nl3 hday hfe2 ⟨rfl,rfl,rfl,trivial⟩).mono fun e f st hm => ?_)
    obtain ⟨rfl,g,rfl,h,rfl⟩ := hm
    refine SW.seq ((st_3 d a b 10 0 (fun _ => 0) d.sN hMs _ _ n _ O hO nl3 hl h).mono fun e f st hm => ?_)
    clear h; obtain ⟨rfl,g,rfl,h,rfl⟩ := hm
    refine SW.seq ((st_4 d a b 10 0 (fun _ => 0) d.sN hMs _ _ n _ O hO nl3 hM0 h).mono fun e f st hm => ?_)
    clear h; obtain ⟨rfl,g,rfl,h,rfl⟩ := hm
    refine SW.seq ((st_5 d a b 10 0 (fun _ => 0) d.sN hMs _ _ n _ O hO nl3 hnw hn h).mono fun e f st hm => ?_)
    clear h; obtain ⟨rfl,g,rfl,h,rfl⟩ := hm
    refine SW.seq ((st_6 d a b 10 0 (fun _ => 0) d.sN hMs _ _ n _ O hO nl3 h).mono fun e f st hm => ?_)
    clear h; obtain ⟨rfl,g,rfl,h,rfl⟩ := hm
    refine SW.seq ((st_7 d a b 10 0 (fun _ => 0) d.sN hMs _ _ n _ O hO nl3 hnl h).mono fun e f st hm => ?_)
    clear h; obtain ⟨rfl,g,rfl,h,rfl⟩ := hm
    rw [hkn] at h
    exact st_8a d a b 10 0 (fun _ => 0) d.sN hMs _ _ n _ O hO nl3 haw hset2 h
  | some x =>
    rw [hq] at hfe
    obtain ⟨hin,hqx⟩ := find_in hq
    have hxl := risL_lt hin
    have hlen : x.length ≤ 4 := by
      have := risL_len hin
      omega
    have hX : lsV x = intsV x.length false (fun i => Int.ofNat (x.getD i 0)) := rfl
    have hfe2 : Pure Try.prog 27 [dayV d] (.tup [intsV x.length false (fun i => Int.ofNat (x.getD i 0)),iV 0]) := hfe
    obtain ⟨k0, hk0, hr0⟩ : ∃ k : Nat, k < d.sN ∧ O.bin .rem .i64 (O.conv .i64 a) (Int.ofNat d.sN) = Int.ofNat k := by
      have hMz : (1 : Int) ≤ Int.ofNat d.sN := by
        have : (1 : Int) ≤ (d.sN : Int) := by omega
        exact this
      obtain ⟨m1,m2⟩ := tmod_in (q := a) (z := Int.ofNat d.sN) ha0 hMz
      obtain ⟨k,hk⟩ := Int.eq_ofNat_of_zero_le m1
      refine ⟨k,?_,?_⟩
      · rw [hk] at m2; exact Int.ofNat_lt.1 m2
      · subst hO
        show (wrp .i64 a).tmod (Int.ofNat d.sN) = _
        rw [wrp_in (by simp only [IntKind.lo]; omega) (by simp only [IntKind.hi]; omega)]; exact hk
    obtain ⟨y,hy⟩ : ∃ y,y = d.fixN x (d.sT k0).fe x.length := ⟨_,rfl⟩
    obtain ⟨_,_,kf1,kf2⟩ := fits_true (sel_fit hc hk0)
    have hyc : y.check = 0 := by rw [hy]; exact fix_check hc hxl fun w hw => kf1 w hw
    have gy := good_of_check hyc
    have hyn : y.nw = d.nw := by rw [hy]; rfl
    have y1 := gy.nw; have y2 := gy.nl; have y3 := gy.nc
    have hysm : y.small := ⟨by omega,by omega,by omega⟩
    have hyo : y.seen.outs ≠ [] := by rw [hy]; exact (fix_flats hc hin hqx hk0).1
    have hye := fix_ends hc hin hqx hk0
    rw [← hy] at hye
    have hyb := boundsV_ok y hysm hyc hyo
    unfold DayD.bndV bndC at hyb
    rw [hye.1,hye.2] at hyb
    have hyday := day_ok y (by omega) (by omega) (by omega)
    have hplay := playN_ok' gd (sel_fit hc hk0)
    have hdayY : dayV y = .agg [iV d.hand,iV d.flat,.isl d.nw 2 false (womC y),lotsV d,cntsV d] := by rw [hy]; rfl
    have hwomF : womC (d.fixN x (d.sT k0).fe x.length) = womC y := by rw [hy]
    have hbits := bits51_ok (Int.ofNat n) (Int.natCast_nonneg n) (by show (n : Int) < 32; omega)
    have hsl := selL_len (n : Int) 5
    have hsho : Pure Try.prog 50 [lsV (selL (n : Int) 5),lsV x] (.sb (shL (selL (n : Int) 5) x)) := shorter_ok (selL (n : Int) 5).length x.length false false (lI (selL (n : Int) 5)) (lI x) (by omega) (by omega)
    have hfin : shL (selL (n : Int) 5) x = true → d.setQ d.seen.outs (selL (n : Int) 5) = false := fun hs => by
      obtain ⟨pre,post,hE,hpre,_⟩ := find_split hq
      exact hpre _ (ris_before (by omega) hE hsel hs)
    have hbet := between_ok (d.tally (d.sT k0)).flats (d.tally (d.sT k0)).flats
    have hinc : ∀ j,j < x.length → 0 < j → x.getD (j - 1) 0 < x.getD j 0 := fun j hj h0 => ris_inc ⟨d.nw,by omega⟩ x hin ⟨j,by omega⟩ hj h0
    have hgl : ∀ j,j < x.length → x.getD j 0 < d.nw := fun j hj => hxl _ (mem_getD.1 ⟨j,hj,rfl⟩)
    have hincall : ∀ j, j < x.length → Pure Try.prog 25 [iV (Int.ofNat (x.getD j 0)), iV 0, iV (O.bin .sub .i64 (Int.ofNat d.nw) 1)] (.lit (.bool true)) := fun j hj => (in_ok (Int.ofNat (x.getD j 0)) 0 (O.bin .sub .i64 (Int.ofNat d.nw) 1)).res (Eqv.lit (by
      rw [sub1_ok hO (by omega)]
      simp only [inB,Bool.and_eq_true,decide_eq_true_eq]
      have := hgl j hj
      have h0 : (0 : Int) ≤ Int.ofNat (x.getD j 0) := Int.natCast_nonneg _
      have h1 : Int.ofNat (x.getD j 0) ≤ (d.nw : Int) - 1 := by
        show ((x.getD j 0 : Nat) : Int) ≤ _
        omega
      exact ⟨h0,h1⟩))
    obtain ⟨GJ,hGJ⟩ : ∃ GJ : Nat → List AV,GJ = fun j => flatG 2 (womC (d.fixN x (d.sT k0).fe j)) d.nw := ⟨_,rfl⟩
    have hGl : ∀ j,(GJ j).length = d.nw * 2 := fun j => by rw [hGJ]; exact flatG_length _ _ _
    have hG0 : GJ 0 = flatG 2 (womC d) d.nw := by rw [hGJ]; show flatG 2 (womC (d.fixN x (d.sT k0).fe 0)) d.nw = _; rw [fixN_zero]
    have hGs : ∀ j, j < x.length → ((GJ j).set (x.getD j 0 * 2 + 0) (iV ((d.sT k0).fe (x.getD j 0)))).set (x.getD j 0 * 2 + 1) (iV ((d.sT k0).fe (x.getD j 0))) = GJ (j + 1) := fun j hj => by
      rw [hGJ]
      show ((flatG 2 (womC (d.fixN x (d.sT k0).fe j)) d.nw).set (x.getD j 0 * 2 + 0) (iV ((d.sT k0).fe (x.getD j 0)))).set (x.getD j 0 * 2 + 1) (iV ((d.sT k0).fe (x.getD j 0))) = flatG 2 (womC (d.fixN x (d.sT k0).fe (j + 1))) d.nw
      rw [← fixN_succ]
      exact flat_wW (d.fixN x (d.sT k0).fe j) (x.getD j 0) _ _ (hgl j hj)
    have hGN : GJ x.length = flatG 2 (womC y) d.nw := by rw [hGJ,hy]
    refine SW.seq ((st_2 d a b 0 x.length (fun i => x.getD i 0) d.sN hMs (fun k => (d.sT k).fe) (fun k => (d.sT k).st) n _ O hO _ hday hfe2 ⟨rfl,rfl,rfl,trivial⟩).mono fun e f st hm => ?_)
    obtain ⟨rfl,g,rfl,h,rfl⟩ := hm
    refine SW.seq ((st_3 d a b 0 x.length (fun i => x.getD i 0) d.sN hMs _ _ n _ O hO _ hl h).mono fun e f st hm => ?_)
    clear h; obtain ⟨rfl,g,rfl,h,rfl⟩ := hm
    refine SW.seq ((st_4 d a b 0 x.length (fun i => x.getD i 0) d.sN hMs _ _ n _ O hO _ hM0 h).mono fun e f st hm => ?_)
    clear h; obtain ⟨rfl,g,rfl,h,rfl⟩ := hm
    refine SW.seq ((st_5 d a b 0 x.length (fun i => x.getD i 0) d.sN hMs _ _ n _ O hO _ hnw hn h).mono fun e f st hm => ?_)
    clear h; obtain ⟨rfl,g,rfl,h,rfl⟩ := hm
    refine SW.seq ((st_6 d a b 0 x.length (fun i => x.getD i 0) d.sN hMs _ _ n _ O hO _ h).mono fun e f st hm => ?_)
    clear h; obtain ⟨rfl,g,rfl,h,rfl⟩ := hm
    refine SW.seq ((st_7 d a b 0 x.length (fun i => x.getD i 0) d.sN hMs _ _ n _ O hO _ hnl h).mono fun e f st hm => ?_)
    clear h; obtain ⟨rfl,g,rfl,h,rfl⟩ := hm
    refine SW.seq ((st_8b d a b 0 x.length (fun i => x.getD i 0) d.sN hMs _ _ n _ O hO _ h).mono fun e f st hm => ?_)
    clear h; obtain ⟨rfl,g,rfl,h,rfl⟩ := hm
    refine SW.seq ((st_9 d a b 0 x.length (fun i => x.getD i 0) d.sN hMs _ _ n _ O hO k0 hk0 hr0 h).mono fun e f st hm => ?_)
    clear h; obtain ⟨rfl,g,rfl,h,rfl⟩ := hm
    refine SW.seq ((st_10 d a b 0 x.length (fun i => x.getD i 0) d.sN hMs _ _ n _ O hO k0 h).mono fun e f st hm => ?_)
    clear h; obtain ⟨rfl,g,rfl,h,rfl⟩ := hm
    refine SW.seq ((st_11 d a b 0 x.length (fun i => x.getD i 0) d.sN hMs _ _ n _ O hO k0 (GJ 0) hG0 hpos (by omega) h).mono fun e f st hm => ?_)
    clear h; obtain ⟨rfl,g,rfl,h,rfl⟩ := hm
    refine SW.seq ((st_12 d a b 0 x.length (fun i => x.getD i 0) d.sN hMs _ _ n _ O hO k0 hlen GJ hgl hinc hincall hGl hGs h).mono fun e f st hm => ?_)
    clear h; obtain ⟨rfl,g,rfl,h,rfl⟩ := hm
    have hlG : d.nw * 2 ≤ (GJ x.length).length := by rw [hGl]; exact Nat.le_refl _
    obtain ⟨GN,hGn⟩ : ∃ G,GJ x.length = G := ⟨_,rfl⟩
    rw [hGn] at hGN hlG ⊢
    obtain ⟨H,hH⟩ : ∃ H : Hp,H = [(4,.cells none false GN),(2,.cells none false [iV d.hand,iV d.flat,.sl 4 0 d.nw 2 false,lotsV d,cntsV d]),(1,.cells none false [intsV d.nw false ((fun k => (d.sT k).fe) k0),intsV d.nl false ((fun k => (d.sT k).st) k0)]),(0,.cells none false (dayC d))] := ⟨_,rfl⟩
    have hH4 : H.get 4 = some (.cells none false GN) := by rw [hH]; rfl
    have hfz := frz_slE (h := H) (D := fun j => Nat.beq j 4) (id := 4) (sz := 2) (n := d.nw) (fm := none) (G := GN) rfl hH4 hlG
    refine SW.frzK (fun j => Nat.beq j 4) (by rfl) (S2 := ⟨[(2,.cells none false [iV d.hand,iV d.flat,frz H (fun j => Nat.beq j 4) 3 (.sl 4 0 d.nw 2 false),lotsV d,cntsV d]),(1,.cells none false [intsV d.nw false ((fun k => (d.sT k).fe) k0),intsV d.nl false ((fun k => (d.sT k).st) k0)]),(0,.cells none false (dayC d))],5⟩) (by rw [hH]; rfl) ?hl h fun g' h' => ?_
    case hl => exact ⟨rfl,rfl,rfl,rfl,rfl,rfl,trivial⟩
    clear h
    rw [hfz]
    have hXe : Eqv (.isl d.nw 2 false (fun i k => frz H (fun j => Nat.beq j 4) 2 (GN.getD (0 + i * 2 + k) .any))) (.isl d.nw 2 false (womC y)) := Eqv.isl rfl fun i j hi hj => Eqv.of (by
      rw [hGN]
      exact frz_flat hi hj (by unfold womC; split <;> rfl))
    obtain ⟨hW,hWd⟩ : ∃ hW,hW = (fun i k => frz H (fun j => Nat.beq j 4) 2 (GN.getD (0 + i * 2 + k) .any)) := ⟨_,rfl⟩
    rw [← hWd] at hXe ⊢
    have hdayE : Pure Try.prog 19 [.agg [iV d.hand,iV d.flat,.isl d.nw 2 false hW,lotsV d,cntsV d]] (dayV y) := Pure.eqv hyday (.cons (by rw [hdayY]; exact Eqv.agg (.cons (Eqv.refl _) (.cons (Eqv.refl _) (.cons hXe (.cons (Eqv.refl _) (.cons (Eqv.refl _) .nil)))))) .nil)
    generalize dayV y = VY at hyb hdayE
    refine SW.seq ((st_13 d a b 0 x.length (fun i => x.getD i 0) d.sN hMs (fun k => (d.sT k).fe) (fun k => (d.sT k).st) n _ O hO k0 hW (d.tally (d.sT k0)).flats _ _ _ _ _ _ _ _ _ _ _ _ _ VY hdayE hyb h').mono fun e f st hm => ?_)
    clear h'; obtain ⟨rfl,g,rfl,h,rfl⟩ := hm
    refine SW.seq ((st_14 d a b 0 x.length (fun i => x.getD i 0) d.sN hMs (fun k => (d.sT k).fe) (fun k => (d.sT k).st) n _ O hO k0 hW (d.tally (d.sT k0)).flats _ _ _ _ _ _ _ _ _ _ _ _ _ (d.bun (d.sT k0)) (d.lef (d.sT k0)) (d.tally (d.sT k0)).hands (d.tally (d.sT k0)).loose (d.tally (d.sT k0)).spare hplay h).mono fun e f st hm => ?_)
    clear h; obtain ⟨rfl,g,rfl,h,rfl⟩ := hm
    cases hs : shL (selL (n : Int) 5) x with
    | false => exact st_15a d a b 0 x.length (fun i => x.getD i 0) d.sN hMs (fun k => (d.sT k).fe) (fun k => (d.sT k).st) n _ O hO k0 hW (d.tally (d.sT k0)).flats _ _ _ _ _ _ _ _ _ _ _ _ _ haw (lsV (selL (n : Int) 5)) hbet hbits (hsho.res (Eqv.lit hs)) h
    | true => exact st_15b d a b 0 x.length (fun i => x.getD i 0) d.sN hMs (fun k => (d.sT k).fe) (fun k => (d.sT k).st) n _ O hO k0 hW (d.tally (d.sT k0)).flats _ _ _ _ _ _ _ _ _ _ _ _ _ haw (lsV (selL (n : Int) 5)) hbet hbits (hsho.res (Eqv.lit hs)) (hset.res (Eqv.lit (hfin hs))) h
end Go.Fz
namespace Go.Fz
open Go.Proofs
set_option maxRecDepth 100000
theorem two_small (k : Nat) (hk : k ≤ 2) : (twoD k).small := ⟨by show 2 < 4611686018427387904; omega,by show 2 < 4611686018427387904; omega,by show k < 4611686018427387904; omega⟩
theorem two_check0 : (twoD 0).check = 0 := by decide +kernel
theorem two_check1 : (twoD 1).check = 0 := by decide +kernel
theorem two_check2 : (twoD 2).check = 0 := by decide +kernel
theorem aw_thick0 : Pure Try.prog 23 [dayV (twoD 0), iV 0, iV 20] (.tup [iV 3, iV 0]) := by
  have h := thicker_ok (twoD 0) (two_small 0 (by omega)) two_check0 0 (by decide) 20 (by omega)
  rw [show (twoD 0).thick 0 20 = 3 by decide +kernel,show (twoD 0).thickE = 0 by decide +kernel] at h
  exact h
theorem aw_thick1 : Pure Try.prog 23 [dayV (twoD 1), iV 0, iV 20] (.tup [iV 2, iV 0]) := by
  have h := thicker_ok (twoD 1) (two_small 1 (by omega)) two_check1 0 (by decide) 20 (by omega)
  rw [show (twoD 1).thick 0 20 = 2 by decide +kernel,show (twoD 1).thickE = 0 by decide +kernel] at h
  exact h
theorem aw_first : Pure Try.prog 30 [dayV (twoD 2)] (.tup [iV 1, iV 0]) := by
  have h := firstP_ok (twoD 2) (two_small 2 (by omega)) two_check2
  rw [show (twoD 2).firstE = 0 by decide +kernel,show (twoD 2).firstV = 1 by decide +kernel] at h
  exact h
theorem aw_leave : Pure Try.prog 31 [dayV (twoD 2)] (.tup [lsV [1], iV 0]) := by
  have h := leaveA_ok (twoD 2) (two_small 2 (by omega)) two_check2
  have hf : (risL (twoD 2).nc).find? (leaveQ (twoD 2).seen.E) = some [1] := by decide +kernel
  unfold leaveV at h
  rw [hf] at h
  exact h
theorem aw_fewest : Pure Try.prog 27 [dayV (twoD 0)] (.tup [lsV [0], iV 0]) := by
  have h := fewestP_ok (twoD 0) (two_small 0 (by omega)) two_check0 (fun e => by
    have : (twoD 0).seen.outs.length = 9 := by decide +kernel
    rw [e] at this; cases this)
  have hf : (risL (twoD 0).nw).find? ((twoD 0).setQ (twoD 0).seen.outs) = some [0] := by decide +kernel
  unfold fewV fewE at h
  rw [hf] at h
  exact h
theorem aw_bounds : Pure Try.prog 18 [dayV (twoD 0)] (.tup [(twoD 0).bndV, iV 0]) := boundsV_ok (twoD 0) (two_small 0 (by omega)) two_check0 (fun e => by
  have : (twoD 0).seen.outs.length = 9 := by decide +kernel
  rw [e] at this; cases this)
end Go.Fz
namespace Go.Fz
variable {P : Program}
theorem frzs_ok {φ : Fi} {st : St} {w : World} (hr : Rel φ st w) {D : Nat → Bool} (m : Nat) : ∀ {xs : List AV} {us : List Value}, VRL φ xs us → VRL (φ.froz st.h D w) (xs.map (frz st.h D m)) us
  | [],_,h => by cases h; exact .nil
  | a :: xs,_,h => by cases h with | cons h t => exact .cons (frz_ok hr m h) (frzs_ok hr m t)
theorem call_frz {g : FuncId} {args args2 : List AV} {r : Value} {st : St} (D : Nat → Bool) (m : Nat) (hp : Pure P g args2 (.lit r)) (hf : freeB st.h D = true) (ha : Eqvs (args.map (frz st.h D m)) args2) :
    CallW P g args st (fun v st' => v = .lit r ∧ st' = st) := by
  intro φ w cargs n hrel hargs
  obtain ⟨k1,_⟩ := hrel.freeze hf
  have hargs' := ha.ok (frzs_ok hrel (D := D) m hargs)
  have hrel0 : Rel (φ.froz st.h D w) ⟨[],st.n⟩ w := ⟨k1.n,fun _ _ h => by simp [Hp.get] at h,fun _ _ h => by simp [Hp.get] at h,fun _ _ h => by simp [Hp.get] at h,fun _ _ _ _ h => by simp [Hp.get] at h,fun _ _ _ h => by simp [Hp.get] at h,fun b c hb => ⟨(k1.froz b c hb).1,(k1.froz b c hb).2.1,fun _ _ h => by simp [Hp.get] at h⟩⟩
  refine (hp.call ⟨[],st.n⟩ (φ.froz st.h D w) w cargs n hrel0 hargs').mono fun e W' hq => ?_
  obtain ⟨v,cv,st',φ',rfl,⟨rfl,rfl⟩,hv,_,_,hfr⟩ := hq
  have hcv := hv.lit_inv
  have hblk : ∀ k,k < w.heap.size → W'.heap[k]? = w.heap[k]? := fun k hk => hfr.block k hk fun ⟨id,o,h,_⟩ => by simp [Hp.get] at h
  refine ⟨.lit r,cv,st,φ,rfl,⟨rfl,rfl⟩,by rw [hcv]; exact .lit _,Ext.refl _,?_,⟨hfr.os,hfr.tape,hfr.output,hfr.size,fun k hk _ => hblk k hk,fun k hk => .inl hk,fun b c hb => .inl hb⟩⟩
  refine ⟨hrel.n,hrel.lt,fun id o h => Nat.lt_of_lt_of_le (hrel.blk id o h) hfr.size,fun id o h => (hrel.obj id o h).same (Ext.refl _) (by rw [hrel.n]; exact hrel.lt id o h) (hblk _ (hrel.blk id o h)),hrel.sep,hrel.fam,fun b c hb => ?_⟩
  obtain ⟨h1,h2,h3⟩ := hrel.froz b c hb
  refine ⟨Nat.lt_of_lt_of_le h1 hfr.size,fun i v hv => ?_,h3⟩
  rw [← h2 i v hv]
  exact World.cell?_of_block (hblk b h1)
end Go.Fz
namespace Go.Fz
open Go.Proofs
set_option maxRecDepth 100000
section
variable {P : Program} {T : Ti}
def lsB (n m : Nat) : Array Bool := ((List.range n).map fun i => m.testBit i).toArray
def tkB (ops : Array Oper) (pend : List (Nat × AV)) (listed : Array Bool) (i d : Nat) : Bool := match ops[i]? with
  | some o => (match o.dst with | some x => Nat.beq x d | none => false) && ((Region.ready .any ops listed).contains i && noLookB ops pend o)
  | none => false
theorem AnyE.tk {ops : Array Oper} {M : List Nat} {rd : Option Nat} {K : Fm → St → Prop} {fuel : Nat} {pend : List (Nat × AV)} {f : Fm} {st : St} (hM : tidyB ops M = true) (hT : TOk P T) {n m : Nat} (i d m' : Nat) {r0 r : AV}
    (hb : tkB ops pend (lsB n m) i d = true) (hs : (lsB n m).setIfInBounds i true = lsB n m') (hl : lightV T ops st.h f i = some r0) (he : Eqv r0 r)
    (H : AnyE P T ops M rd K fuel ((i,r) :: pend) (lsB n m') (f.put (some d) r) st) : AnyE P T ops M rd K (fuel + 1) pend (lsB n m) f st := by
  unfold tkB at hb
  split at hb
  · rename_i o ho
    rw [Bool.and_eq_true] at hb
    obtain ⟨h1,h2⟩ := hb
    have hd : o.dst = some d := by
      split at h1
      · rename_i x hx; rw [hx,Nat.eq_of_beq_eq_true h1]
      · cases h1
    refine AnyE.takeE hM hT i ho h2 ⟨r0,hl,he⟩ ?_
    rw [hs,hd]
    exact H
  · cases hb
theorem AnyE.ls {ops : Array Oper} {M : List Nat} {rd : Option Nat} {K : Fm → St → Prop} {fuel : Nat} {pend : List (Nat × AV)} {f f' : Fm} {st : St} {listed : Array Bool} {n : Nat} (m' : Nat) (hs : listed = lsB n m') (hf : f' = f) (h : AnyE P T ops M rd K fuel pend (lsB n m') f st) : AnyE P T ops M rd K fuel pend listed f' st := by
  rw [hs,hf]; exact h
theorem SW.drawnB (_hT : TOk P T) {ops : Array Oper} {M : List Nat} (hm : P.follows .mixedOrders = true) {rd : Option Nat} {id : Nat} {Q : Exit → Fm → St → Prop} {f : Fm} {st : St} (n : Nat) (hM : tidyB ops M = true) (hn : ops.size = n) (h0 : Array.replicate n false = lsB n 0)
    (h : AnyE P T ops M rd (fun f' st' => Q .normal f' st') n [] (lsB n 0) f st) : SW P rd (.region id ops true) Q f st := by
  refine SW.drawnE (T := T) hm hM ?_
  rw [hn,h0]; exact h
end
end Go.Fz
