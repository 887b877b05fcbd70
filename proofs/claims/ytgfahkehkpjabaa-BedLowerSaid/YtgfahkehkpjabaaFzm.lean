/-
  Layer 1: BedLower returns true. Own work of the verifier of watercress.
-/
import Derived.Test.YtgfahkehkpjabaaFzl
namespace Go.Fz
open Go.Proofs
set_option maxRecDepth 100000

def FarmD.readyB (f : FarmD) : Bool := f.thinB && decide (f.faultN = 0)
theorem ready_ok (f : FarmD) : Pure Try.prog 52 [farmV f] (.sb f.readyB) := by
  obtain ⟨O, hO⟩ : ∃ O : Ar, O = std := ⟨_, rfl⟩
  refine pure_of_body tok 3 Try.func52 en52 rfl ⟨farmV_below f, trivial⟩ Below.sb ?_
  refine SW.seqRun tok hO (by cbv <;> rfl) (by trivial) ?_
  refine SW.seqRun tok hO (by cbv <;> rfl) (by trivial) ?_
  refine OpsW.callB (thin_ok f) (by cbv <;> rfl) fun b hb => ?_
  refine OpsW.run tok hO (by cbv <;> rfl) (by trivial) ?_
  refine OpsW.splitG (by cbv <;> rfl) (fun h => ?_) (fun h => ?_) <;> refine OpsW.run tok hO (by cbv <;> rfl) (by trivial) ?_
  · have hT : f.thinB = true := hb.symm.trans h
    have hs : f.small := by
      simp only [FarmD.thinB, Bool.and_eq_true, decide_eq_true_eq] at hT
      exact ⟨by omega, by omega, by omega⟩
    refine OpsW.callI (fault_ok f hs) (by cbv <;> rfl) fun e he => ?_
    refine OpsW.run tok hO (by cbv <;> rfl) (by trivial) ?_
    refine SW.ret ⟨_, _, rfl, rfl, Eqv.sb ?_⟩
    subst hO; subst he
    simp [FarmD.readyB, hT, std]
    rfl
  · refine SW.ret ⟨_, _, rfl, rfl, Eqv.bool ?_⟩
    simp [FarmD.readyB, ← hb, h]

theorem FarmD.many_pos (f : FarmD) (g : f.Good) : 1 ≤ f.manyN f.ns ∧ f.manyN f.ns ≤ 3000 := by
  obtain ⟨_, h⟩ := f.sizes_eq g.ns (fun s hs => (g.spring s hs).2) f.ns (Nat.le_refl _)
  obtain ⟨h1, _⟩ := f.prod_le (fun s hs => (g.spring s hs).2) f.ns (Nat.le_refl _)
  rw [h]
  unfold minI
  split <;> omega

theorem frz_slN {h : Hp} {D : Nat → Bool} {id sz n : Nat} {fm : Option Nat} {ex : Bool} {g : Nat → Nat → AV} (hd : D id = true) (hg : h.get id = some (.cells fm false (flatG sz g n))) :
    frz h D 3 (.sl id 0 n sz ex) = .isl n sz ex (fun i k => frz h D 2 ((flatG sz g n).getD (0 + i * sz + k) .any)) := by
  show (if D id = true then (match h.get id with | some (.cells _ false cs) => if 0 + n * sz ≤ cs.length then AV.isl n sz ex (fun i k => frz h D 2 (cs.getD (0 + i * sz + k) .any)) else .any | _ => .any) else _) = _
  rw [if_pos hd, hg]
  exact if_pos (by rw [flatG_length]; omega)
theorem frz_slM {h : Hp} {D : Nat → Bool} {id sz n : Nat} {fm : Option Nat} {ex : Bool} {g : Nat → Nat → AV} (hd : D id = true) (hg : h.get id = some (.cells fm false (flatG sz g n))) (hz : ∀ i k, frz h D 2 (g i k) = g i k) :
    Eqv (frz h D 3 (.sl id 0 n sz ex)) (.isl n sz ex g) := by
  rw [frz_slN hd hg]
  refine Eqv.isl rfl fun i k hi hk => ?_
  have : (flatG sz g n).getD (0 + i * sz + k) .any = g i k := by
    rw [List.getD_eq_getElem?_getD, show 0 + i * sz + k = i * sz + k by omega, flatG_get sz g n i k hi hk]; rfl
  rw [this, hz]; exact Eqv.refl _

/-- The farms of BedLower. -/
def lowS (f : FarmD) (X : AV) : St := ⟨[(1, .cells none false [springsV f, X, looksV f]), (0, .cells none false [springsV f, bedsV f, looksV f])], 4⟩
def lowH (f : FarmD) (k : Nat) (v : Int) : Hp := [(3, .cells none false (flatG 3 (bedC (f.setN k v)) f.nb)), (2, .cells none false []), (1, .cells none false [springsV f, .sl 3 0 f.nb 3 false, looksV f]), (0, .cells none false [springsV f, bedsV f, looksV f])]
def lowD (j : Nat) : Bool := Nat.beq j 3 || Nat.beq j 2

set_option maxHeartbeats 8000000 in
theorem bedLower_ok (haw : Pure Try.prog 19 [] (.lit (.bool true))) (f : FarmD) (w a b : Int) (hw0 : 0 ≤ w) (hw1 : w ≤ 65535) (ha0 : 0 ≤ a) (ha1 : a ≤ 255) (hb0 : 0 ≤ b) (hb1 : b ≤ 255) :
    Pure Try.prog 13 [farmV f, .lit (.int .u16 w), .lit (.int .u8 a), .lit (.int .u8 b)] (.lit (.bool true)) := by
  obtain ⟨O, hO⟩ : ∃ O : Ar, O = std := ⟨_, rfl⟩
  refine pure_of_body tok 3 Try.func13 en13 rfl ⟨farmV_below f, Below.lit, Below.lit, Below.lit, trivial⟩ Below.lit ?_
  refine SW.seqRun tok hO (by cbv <;> rfl) (by trivial) ?_
  refine SW.seq ?_
  refine SW.seqRun tok hO (by cbv <;> rfl) (by trivial) ?_
  have call := ready_ok f
  generalize hR : f.readyB = t at call
  refine OpsW.callP call (by cbv <;> rfl) ?_
  have hnot : O.not t = !t := by subst hO; rfl
  refine OpsW.run tok hO (by cbv <;> rfl) (by trivial) ?_
  refine SW.condS (by cbv <;> rfl) (fun h1 => ?_) (fun h1 => SW.skip ?_)
  · refine SW.seqRun tok hO (by cbv <;> rfl) (by trivial) ?_
    refine OpsW.callP haw (by cbv <;> rfl) ?_
    refine OpsW.run tok hO (by cbv <;> rfl) (by trivial) ?_
    exact SW.ret ⟨_, _, rfl, rfl, Eqv.refl _⟩
  have ht : t = true := by have := hnot.symm.trans h1; simpa using this
  rw [ht] at hR
  have hR' := hR
  simp only [FarmD.readyB, Bool.and_eq_true, decide_eq_true_eq] at hR'
  obtain ⟨hT, hF⟩ := hR'
  have g := good_of_check (f.check_eq.trans hF)
  have hnb := g.nb
  have hns := g.ns
  have hnl := g.nl
  have hpos := g.pos
  have hs : f.small := ⟨by omega, by omega, by omega⟩
  have hmany := many_ok f hs
  obtain ⟨hm0, hm1⟩ := f.many_pos g
  generalize f.manyN f.ns = M at hmany hm0 hm1
  have hMne : M ≠ 0 := by omega
  refine SW.seqRunD tok mixed hO (by rfl) (by cbv <;> rfl) (by trivial) ?_
  refine AnyE.callP hmany (by cbv <;> rfl) (by cbv <;> rfl) ?_
  refine AnyE.run tok hO (by rfl) (by cbv <;> rfl) ?_ ?_
  · exact hMne
  have hN : O.bin .rem .i64 (O.conv .i64 w) M = w.tmod M := by
    subst hO
    show (wrp .i64 w).tmod M = _
    rw [wrp_in (by simp only [IntKind.lo]; omega) (by simp only [IntKind.hi]; omega)]
  have hNb := tmod_bound (q := w) (z := M) hw0 (by omega)
  have hlist := f.nth_listed g (w.tmod M) hNb.1 (by omega)
  have hp : Pure Try.prog 60 [farmV f, iV (O.bin .rem .i64 (O.conv .i64 w) M)] (intsV f.ns false (f.nthN (w.tmod M))) := by rw [hN]; exact nth_ok f g _
  generalize f.nthN (w.tmod M) = fl at hlist hp
  refine AnyE.callP hp (by cbv <;> rfl) (by cbv <;> rfl) ?_
  refine AnyE.run tok hO (by rfl) (by cbv <;> rfl) (by trivial) ?_
  have hk : ∃ k : Nat, k < f.nb ∧ a.tmod f.nb = k := by
    have := tmod_bound (q := a) (z := f.nb) ha0 (by omega)
    exact ⟨(a.tmod f.nb).toNat, by omega, by omega⟩
  obtain ⟨k, hk, hka⟩ := hk
  have hK : O.bin .rem .i64 (O.conv .i64 a) (Int.ofNat f.nb) = Int.ofNat k := by
    subst hO
    show (wrp .i64 a).tmod f.nb = k
    rw [wrp_in (by simp only [IntKind.lo]; omega) (by simp only [IntKind.hi]; omega)]
    exact hka
  refine SW.seq (SW.mono (Q := fun e fm st => e = .normal ∧ ∃ g, fm = ⟨⟨153, g⟩, []⟩ ∧ g 3 = .lit (.int .u8 b) ∧ g 4 = .ptr 0 0 ∧ g 9 = intsV f.ns false fl ∧ g 10 = .lit (.int .i64 (Int.ofNat k)) ∧ st = ⟨[(0, .cells none false [springsV f, bedsV f, looksV f])], 1⟩) ?_ ?_)
  · refine SW.run tok hO (by cbv <;> rfl) ?_ ?_
    · show (Int.ofNat f.nb : Int) ≠ 0
      exact fun h => by have : (f.nb : Int) = 0 := h; omega
    exact ⟨rfl, _, rfl, rfl, rfl, rfl, congrArg (fun z => AV.lit (.int .i64 z)) hK, rfl⟩
  rintro e fm st ⟨rfl, G, rfl, g3, g4, g9, g10, rfl⟩
  rw [← updT_self g3, ← updT_self g4, ← updT_self g9, ← updT_self g10]
  refine SW.seqRun tok hO (by cbv <;> rfl) (by trivial) ?_
  refine SW.seq (SW.runN tok hO 3 (by cbv <;> rfl) (by trivial) ?_)
  refine OpsW.appA tok (by cbv <;> rfl) (by exact append_empty (g := bedC f) (by kernel_rfl) (by rfl) (by show f.nb < 1048576; omega) hpos fun i k => (bedC_one f i k).2) ?_
  obtain ⟨B, hB⟩ : ∃ B, flatG 3 (bedC f) f.nb = B := ⟨_, rfl⟩
  rw [hB]
  refine OpsW.run tok hO (by cbv <;> rfl) (by trivial) ?_
  have h0 : (0 : Int) ≤ Int.ofNat k := Int.natCast_nonneg k
  have hnat : ∀ i : Nat, O.nat (Int.ofNat i) = i := fun i => by subst hO; rfl
  have hv : ∃ v, O.mx 0 (O.bin .sub .i64 (f.notch (O.nat (Int.ofNat k))) (O.bin .rem .i64 (O.conv .i64 b) 5)) = v ∧ 0 ≤ v ∧ v ≤ f.notch k := by
    obtain ⟨_, ⟨n0, n1⟩, _⟩ := g.bed k hk
    have hb5 := tmod_bound (q := b) (z := 5) hb0 (by omega)
    refine ⟨_, rfl, ?_⟩
    subst hO
    show 0 ≤ (if wrp .i64 (f.notch k - (wrp .i64 b).tmod 5) > 0 then wrp .i64 (f.notch k - (wrp .i64 b).tmod 5) else 0) ∧ (if wrp .i64 (f.notch k - (wrp .i64 b).tmod 5) > 0 then wrp .i64 (f.notch k - (wrp .i64 b).tmod 5) else 0) ≤ _
    rw [wrp_in (n := b) (by simp only [IntKind.lo]; omega) (by simp only [IntKind.hi]; omega), wrp_in (by simp only [IntKind.lo]; omega) (by simp only [IntKind.hi]; omega)]
    split <;> omega
  obtain ⟨v, hvv, hv0, hv1⟩ := hv
  refine SW.seq (SW.mono (Q := fun e fm st => e = .normal ∧ ∃ g, fm = ⟨⟨153, g⟩, []⟩ ∧ g 4 = .ptr 0 0 ∧ g 9 = intsV f.ns false fl ∧ g 10 = .lit (.int .i64 (Int.ofNat k)) ∧ g 11 = .ptr 1 0 ∧
    st = ⟨[(3, .cells none false (flatG 3 (bedC (f.setN k v)) f.nb)), (2, .cells none false []), (1, .cells none false [springsV f, .sl 3 0 f.nb 3 false, looksV f]), (0, .cells none false [springsV f, bedsV f, looksV f])], 4⟩) ?_ ?_)
  · refine SW.runDN tok mixed hO 14 (by rfl) (by cbv <;> rfl) ?_ ?_
    · exact ⟨by show (5 : Int) ≠ 0; decide, h0, Int.ofNat_lt.2 hk⟩
    refine AnyE.idxSl tok 14 (n := k) (by rfl) (by cbv <;> rfl) (by kernel_rfl) hk (by cbv <;> rfl) fun q hq => ?_
    refine AnyE.run tok hO (by rfl) (by cbv <;> rfl) (by trivial) ?_
    refine AnyE.sto (id := 3) (G := B) tok (by cbv <;> rfl) (by cbv <;> rfl) (by kernel_rfl) (by rfl) ?_ fun B' hB' => ?_
    · show q + 1 < B.length
      rw [← hB, flatG_length]; omega
    have hBB : B' = flatG 3 (bedC (f.setN k v)) f.nb := by
      rw [hB', ← hB]
      show (flatG 3 (bedC f) f.nb).set (q + 1) (iV (O.mx 0 (O.bin .sub .i64 (f.notch (O.nat (Int.ofNat k))) (O.bin .rem .i64 (O.conv .i64 b) 5)))) = _
      rw [hvv, hq, show 0 + k * 3 + 1 = k * 3 + 1 by omega]
      refine flatG_set hk (by omega) ?_ fun i j _ hj hne => ?_
      · show iV (if k = k then v else _) = iV v
        rw [if_pos rfl]
      · match j, hj with
        | 0, _ => rfl
        | 1, _ =>
          have : i ≠ k := fun e => hne ⟨e, rfl⟩
          show iV (if i = k then v else f.notch i) = iV (f.notch i)
          rw [if_neg this]
        | 2, _ => rfl
    refine AnyE.done (by rfl) ?_
    refine ⟨rfl, _, rfl, rfl, rfl, rfl, rfl, ?_⟩
    rw [← hBB]; rfl
  rintro e fm st ⟨rfl, G2, rfl, g4', g9', g10', g11', rfl⟩
  refine SW.freezeZ lowD 3 (by rfl) ?_
  obtain ⟨X, hX, hXe, h', hXs⟩ : ∃ X, frz (lowH f k v) lowD 3 (.sl 3 0 f.nb 3 false) = X ∧ Eqv X (bedsV (f.setN k v)) ∧ ∃ h, X = .isl f.nb 3 false h :=
    ⟨_, rfl, frz_slM (fm := none) rfl rfl (fun i k => by unfold bedC; split <;> rfl), _, frz_slN (fm := none) rfl rfl⟩
  show SW _ _ _ _ ⟨⟨153, fun i => frz (lowH f k v) lowD 3 (G2 i)⟩, []⟩ (lowS f (frz (lowH f k v) lowD 3 (.sl 3 0 f.nb 3 false)))
  rw [hX]
  clear hX
  subst hXs
  obtain ⟨G3, hG3⟩ : ∃ G3, G3 = fun i => frz (lowH f k v) lowD 3 (G2 i) := ⟨_, rfl⟩
  rw [← hG3]
  have q4 : G3 4 = .ptr 0 0 := by rw [hG3]; show frz _ _ 3 (G2 4) = _; rw [g4']; rfl
  have q9 : G3 9 = intsV f.ns false fl := by rw [hG3]; show frz _ _ 3 (G2 9) = _; rw [g9']; rfl
  have q10 : G3 10 = .lit (.int .i64 (Int.ofNat k)) := by rw [hG3]; show frz _ _ 3 (G2 10) = _; rw [g10']; rfl
  have q11 : G3 11 = .ptr 1 0 := by rw [hG3]; show frz _ _ 3 (G2 11) = _; rw [g11']; rfl
  clear hG3
  rw [← updT_self q4, ← updT_self q9, ← updT_self q10, ← updT_self q11]
  have g2 := f.setN_good g k hk v hv0 hv1
  have hF2 : (f.setN k v).faultN = 0 := f.setN_fault g k v g2 hF
  have hlist2 : (f.setN k v).listedB f.ns fl = true := hlist
  have hs2 : (f.setN k v).small := hs
  have hp1 := play20_ok f hs f.ns false fl (by omega)
  rw [(f.play_good f.ns fl hF hlist).1, (f.play_good f.ns fl hF hlist).2] at hp1
  have hp2 := play20_ok (f.setN k v) hs2 f.ns false fl (by omega)
  rw [((f.setN k v).play_good f.ns fl hF2 hlist2).1, ((f.setN k v).play_good f.ns fl hF2 hlist2).2] at hp2
  have hfl := FarmD.fl_of_listed g hlist
  have hW := f.lower_water g k hk v hv0 hv1 fl hfl
  generalize f.water fl = W1 at hp1 hW
  generalize (f.setN k v).water fl = W2 at hp2 hW
  obtain ⟨⟨hk0, hk1⟩, hWi⟩ := hW
  have hfarm1 := farm_ok f (by omega) (by omega) (by omega)
  have hfarm2 : Pure Try.prog 21 [.agg [springsV f, .isl f.nb 3 false h', looksV f]] (farmV (f.setN k v)) :=
    Pure.eqv (farm_ok (f.setN k v) (show f.nb ≤ 10 by omega) (show f.ns ≤ 6 by omega) (show f.nl ≤ 7 by omega)) (.cons (Eqv.agg (.cons (Eqv.refl _) (.cons hXe (.cons (Eqv.refl _) .nil)))) .nil)
  have hlst := list_ok f.ns false fl (by omega)
  refine SW.seqRun tok hO (by cbv <;> rfl) (by trivial) ?_
  refine OpsW.callP hfarm1 (by cbv <;> rfl) ?_
  refine OpsW.run tok hO (by cbv <;> rfl) (by trivial) ?_
  refine OpsW.callP hlst (by cbv <;> rfl) ?_
  refine OpsW.run tok hO (by cbv <;> rfl) (by trivial) ?_
  refine OpsW.callP hp1 (by cbv <;> rfl) ?_
  refine OpsW.run tok hO (by cbv <;> rfl) (by trivial) ?_
  refine SW.seqRun tok hO (by cbv <;> rfl) (by trivial) ?_
  refine OpsW.callP hfarm2 (by cbv <;> rfl) ?_
  refine OpsW.run tok hO (by cbv <;> rfl) (by trivial) ?_
  refine OpsW.callP hlst (by cbv <;> rfl) ?_
  refine OpsW.run tok hO (by cbv <;> rfl) (by trivial) ?_
  refine OpsW.callP hp2 (by cbv <;> rfl) ?_
  refine OpsW.run tok hO (by cbv <;> rfl) (by trivial) ?_
  refine SW.seq ?_
  have hin : 0 ≤ Int.ofNat k ∧ Int.ofNat k < (f.nb : Int) := ⟨h0, Int.ofNat_lt.2 hk⟩
  refine SW.seqRunDN tok mixed hO 1 (by kernel_rfl) (by cbv <;> rfl) (by trivial) ?_
  refine AnyE.dec tok hO (by kernel_rfl) (by cbv <;> rfl) (by trivial) (fun c1 => ?_) (fun c1 => ?_)
  · exfalso; subst hO; simp [std] at c1
  refine AnyE.runN tok hO 2 (by kernel_rfl) (by cbv <;> rfl) (by first | trivial | exact hin) ?_
  refine AnyE.dec tok hO (by kernel_rfl) (by cbv <;> rfl) (by trivial) (fun c2 => ?_) (fun c2 => ?_)
  · exfalso; subst hO; simp [std] at c2
  refine AnyE.runN tok hO 4 (by kernel_rfl) (by cbv <;> rfl) (by first | trivial | exact hin) ?_
  refine AnyE.runN tok hO 3 (by kernel_rfl) (by cbv <;> rfl) (by first | trivial | exact hin) ?_
  refine AnyE.dec tok hO (by kernel_rfl) (by cbv <;> rfl) (by trivial) (fun c3 => ?_) (fun c3 => ?_)
  · exfalso; subst hO; simp [std] at c3
  refine AnyE.runN tok hO 3 (by kernel_rfl) (by cbv <;> rfl) (by first | trivial | exact hin) ?_
  refine AnyE.runN tok hO 3 (by kernel_rfl) (by cbv <;> rfl) (by first | trivial | exact hin) ?_
  refine AnyE.dec tok hO (by kernel_rfl) (by cbv <;> rfl) (by trivial) (fun c4 => ?_) (fun c4 => ?_)
  · exfalso; subst hO; simp [std] at c4
  refine AnyE.runN tok hO 4 (by kernel_rfl) (by cbv <;> rfl) (by first | trivial | exact hin) ?_
  refine AnyE.runN tok hO 4 (by kernel_rfl) (by cbv <;> rfl) (by first | trivial | exact hin) ?_
  refine AnyE.runN tok hO 4 (by kernel_rfl) (by cbv <;> rfl) (by first | trivial | exact hin) ?_
  refine AnyE.dec tok hO (by kernel_rfl) (by cbv <;> rfl) (by trivial) (fun c5 => ?_) (fun c5 => ?_)
  · exfalso
    have : W1 k 1 < W2 k 1 := by subst hO; simpa [std] using c5
    omega
  refine AnyE.runN tok hO 4 (by kernel_rfl) (by cbv <;> rfl) (by first | trivial | exact hin) ?_
  refine AnyE.runN tok hO 4 (by kernel_rfl) (by cbv <;> rfl) (by first | trivial | exact hin) ?_
  refine AnyE.runN tok hO 4 (by kernel_rfl) (by cbv <;> rfl) (by first | trivial | exact hin) ?_
  refine AnyE.dec tok hO (by kernel_rfl) (by cbv <;> rfl) (by trivial) (fun c6 => ?_) (fun c6 => ?_)
  · exfalso; subst hO; simp [std] at c6; exact c6 hk0
  refine AnyE.run tok hO (by kernel_rfl) (by cbv <;> rfl) (by trivial) ?_
  refine SW.cond (t := false) (by cbv <;> rfl) (SW.skip ?_)
  refine SW.seq ?_
  refine SW.seqRun tok hO (by cbv <;> rfl) (by trivial) ?_
  refine (SW.block (SW.loopF (fun i : Nat => ⟨⟨153, getT [(4, .ptr 0 0), (10, .lit (.int .i64 (Int.ofNat k))), (12, .isl f.nb 3 false (flowC W1)), (14, .isl f.nb 3 false (flowC W2)), (16, iV i)]⟩, []⟩) (fun _ => ⟨[(0, .cells none false [springsV f, bedsV f, looksV f])], 4⟩) (fun i => f.nb - i) (fun i => i ≤ f.nb) 0
    (fun _ => rfl) (Nat.zero_le _) (Weak.by rfl rfl (by simp) (Nat.le_refl _) (Nat.le_refl _) ⟨⟨rfl, .inl rfl⟩, ⟨rfl, .inl rfl⟩, ⟨rfl, .inl rfl⟩, ⟨rfl, .inl rfl⟩, ⟨rfl, .inl rfl⟩, trivial⟩ ⟨⟨rfl, by omega, .inl rfl⟩, trivial⟩) fun i hi => ?_))
  refine SW.seq ?_
  refine SW.seqRun tok hO (by cbv <;> rfl) (by trivial) ?_
  refine SW.condS (by cbv <;> rfl) (fun h11 => SW.skip ?_) (fun h11 => SW.exit ?_)
  · have hlt : i < f.nb := by subst hO; simpa [std] using h11
    have hi0 : (0 : Int) ≤ Int.ofNat i := Int.natCast_nonneg i
    have hii : 0 ≤ Int.ofNat i ∧ Int.ofNat i < (f.nb : Int) := ⟨hi0, Int.ofNat_lt.2 hlt⟩
    refine SW.seq (SW.block ?_)
    refine SW.seq ?_
    refine SW.seqRun tok hO (by cbv <;> rfl) (by trivial) ?_
    refine SW.condS (by cbv <;> rfl) (fun h12 => SW.exit ?_) (fun h12 => SW.skip ?_)
    · refine SW.run tok hO (by cbv <;> rfl) (by trivial) ?_
      refine ⟨i + 1, by omega, by omega, Weak.by rfl rfl (by simp) (Nat.le_refl _) (Nat.le_refl _) ⟨⟨rfl, .inl rfl⟩, ⟨rfl, .inl rfl⟩, ⟨rfl, .inl rfl⟩, ⟨rfl, .inl rfl⟩, ⟨inc_ok hO (by omega), .inl rfl⟩, trivial⟩ ⟨⟨rfl, by omega, .inl rfl⟩, trivial⟩⟩
    · have hik : i ≠ k := by
        have h3 : ¬ (i : Int) = k := (by subst hO; simpa [std] using h12)
        omega
      obtain ⟨hup, hsame⟩ := hWi i hlt hik
      refine SW.seqRun tok hO (by cbv <;> rfl) (by trivial) ?_
      refine OpsW.callB (above_ok f g k i hk) (by cbv <;> rfl) fun c hc => ?_
      refine OpsW.run tok hO (by cbv <;> rfl) (by trivial) ?_
      refine SW.condS (by cbv <;> rfl) (fun h13 => ?_) (fun h13 => ?_)
      · have hle := hup (hc.symm.trans h13)
        refine SW.seqRunD tok mixed hO (by kernel_rfl) (by cbv <;> rfl) ?_ ?_
        · exact ⟨hii, hii⟩
        refine AnyE.dec tok hO (by kernel_rfl) (by cbv <;> rfl) (by trivial) (fun c7 => ?_) (fun c7 => ?_)
        · exfalso
          have : W2 i 0 < W1 i 0 := by subst hO; simpa [std] using c7
          omega
        refine AnyE.done (by rfl) ?_
        refine SW.cond (t := false) (by cbv <;> rfl) (SW.skip ?_)
        refine SW.run tok hO (by cbv <;> rfl) (by trivial) ?_
        refine ⟨i + 1, by omega, by omega, Weak.by rfl rfl (by simp) (Nat.le_refl _) (Nat.le_refl _) ⟨⟨rfl, .inl rfl⟩, ⟨rfl, .inl rfl⟩, ⟨rfl, .inl rfl⟩, ⟨rfl, .inl rfl⟩, ⟨inc_ok hO (by omega), .inl rfl⟩, trivial⟩ ⟨⟨rfl, by omega, .inl rfl⟩, trivial⟩⟩
      · obtain ⟨e0, e1, e2⟩ := hsame (hc.symm.trans h13)
        refine SW.seqRunD tok mixed hO (by kernel_rfl) (by cbv <;> rfl) ?_ ?_
        · exact ⟨hii, hii⟩
        refine AnyE.dec tok hO (by kernel_rfl) (by cbv <;> rfl) (by trivial) (fun c7 => ?_) (fun c7 => ?_)
        · exfalso
          subst hO
          revert c7
          rw [show std.nat (Int.ofNat i) = i from rfl, e0, e1, e2]
          simp [std]
        refine AnyE.done (by rfl) ?_
        refine SW.cond (t := false) (by cbv <;> rfl) (SW.skip ?_)
        refine SW.run tok hO (by cbv <;> rfl) (by trivial) ?_
        refine ⟨i + 1, by omega, by omega, Weak.by rfl rfl (by simp) (Nat.le_refl _) (Nat.le_refl _) ⟨⟨rfl, .inl rfl⟩, ⟨rfl, .inl rfl⟩, ⟨rfl, .inl rfl⟩, ⟨rfl, .inl rfl⟩, ⟨inc_ok hO (by omega), .inl rfl⟩, trivial⟩ ⟨⟨rfl, by omega, .inl rfl⟩, trivial⟩⟩
  · refine SW.seqRun tok hO (by cbv <;> rfl) (by trivial) ?_
    refine OpsW.callP haw (by cbv <;> rfl) ?_
    refine OpsW.run tok hO (by cbv <;> rfl) (by trivial) ?_
    exact SW.ret ⟨_, _, rfl, rfl, Eqv.refl _⟩
end Go.Fz
