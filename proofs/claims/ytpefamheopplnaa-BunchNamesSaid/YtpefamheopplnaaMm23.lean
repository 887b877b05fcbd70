/- Own work of the verifier of watercress: FzD6, FzD7, FzD8, FzB18, FzB43, FzD9, FzD10, FzD11, FzK3, FzG7, FzK4. -/
import Derived.Test.YtpefamheopplnaaMm19
import Derived.Test.YtpefamheopplnaaMm14
import Derived.Test.YtpefamheopplnaaMm10
import Derived.Test.YtpefamheopplnaaMm13
import Derived.Test.YtpefamheopplnaaMm12
import Derived.Test.YtpefamheopplnaaMm20
set_option linter.unusedVariables false
set_option linter.unusedSimpArgs false
namespace Go.Fz
open Go.Proofs
set_option maxRecDepth 100000
set_option maxHeartbeats 16000000 in
theorem ends65_core (g : FuncId) (nw nl : Nat) (A B C D : Nat → Nat → Int) (a b c e : Nat → Int) (L : Nat) (h0L : 0 < L) (hL : L < 100000) (V : Nat → Int)
    (hof : ∀ i, i < L → Pure Try.prog g [.agg [intsV nw false (A i), intsV nl false (B i), intsV nw false (C i), intsV nw false (D i), iV (a i), iV (b i), iV (c i), iV (e i)]] (iV (V i))) (lo hi : Int)
    (hlo : ∃ i, i < L ∧ V i = lo) (hlo' : ∀ i, i < L → lo ≤ V i) (hhi : ∃ i, i < L ∧ V i = hi) (hhi' : ∀ i, i < L → V i ≤ hi) :
    CallW Try.prog 65 [.fn (.func 100) [] [.ptr 0 0], .fn (.func g) [] []] (roS [.isl L 8 false (outX nw nl A B C D a b c e)]) (fun v st' => freeB st'.h notZ = true ∧ Eqv (frz st'.h notZ 3 v) (rangeV lo hi)) := by
  obtain ⟨O, hO⟩ : ∃ O : Ar, O = std := ⟨_, rfl⟩
  have hkeys := values100 g nw nl A B C D a b c e L hL V hof
  have hGb := outX_below nw nl A B C D a b c e L
  obtain ⟨Y, hY⟩ : ∃ Y, (AV.isl L 8 false (outX nw nl A B C D a b c e)) = Y := ⟨_, rfl⟩
  have hY1 : Y.one = true := by rw [← hY]; rfl
  rw [hY] at hkeys hGb ⊢
  refine callW_of_body tok Try.func65 rfl ?_
  refine SW.seqRun tok hO (by cbv <;> rfl) (by trivial) ?_
  refine SW.seqRun tok hO (by cbv <;> rfl) (by trivial) ?_
  refine SW.seq ?_
  refine SW.seqRun tok hO (by cbv <;> rfl) (by trivial) ?_
  refine SW.block ?_
  refine SW.pre (f2 := ⟨⟨24, getT evlT⟩, []⟩) (st2 := ⟨[(3, .cells none false [nl3]), (2, .cells none false [iV 0, iV 0]), (1, .cells none false [.fn (.func g) [] []]), (0, .cells none true [Y])], 4⟩) ?_ ?_
  · exact Weak.by rfl rfl (fun _ h => nomatch h) (Nat.le_refl _) (Nat.le_refl _) ⟨⟨rfl, .inl rfl⟩, ⟨rfl, .inl rfl⟩, ⟨rfl, .inl rfl⟩, ⟨rfl, .inl rfl⟩, trivial⟩ ⟨⟨rfl, by show _ < 4; omega, .inl rfl⟩, ⟨rfl, by show _ < 4; omega, .inl rfl⟩, ⟨rfl, by show _ < 4; omega, .inl rfl⟩, ⟨rfl, by show _ < 4; omega, .inl rfl⟩, trivial⟩
  refine SW.rangeFunc (gf := 100) (first := []) (caps := [.ptr 0 0]) (by rfl) en100 ?_
  refine (show CallW Try.prog 100 [.yld 5, .ptr 0 0] ⟨evlH g Y nl3, 6⟩ _ from hkeys _ ?_)
  refine ⟨evlR, rfl, (fun h => by simp [evlR] at h), ?_⟩
  obtain ⟨m, rfl⟩ : ∃ m, L = m + 1 := ⟨L - 1, by omega⟩
  obtain ⟨G, hG⟩ : ∃ G, G = flatG 1 (intC V) (m + 1) := ⟨_, rfl⟩
  show SW Try.prog none _ _ ⟨⟨24, getT evlT⟩, [4]⟩ ⟨(5, .loop { evlR with state := .exhausted }) :: (4, .dfr) :: (3, .cells none false [.sl 6 0 (m + 1) 1 false]) :: (2, .cells none false [iV 0, iV 0]) :: (1, .cells none false [.fn (.func g) [] []]) :: (0, .cells none true [Y]) :: [(6, .cells none false (flatG 1 (intC V) (m + 1)))], 7⟩
  rw [← hG]
  refine SW.pre (f2 := ⟨⟨24, getT [(4, .ptr 2 0), (5, .ptr 3 0)]⟩, [4]⟩) (st2 := ⟨[(6, .cells none false G), (4, .dfr), (3, .cells none false [.sl 6 0 (m + 1) 1 false]), (2, .cells none false [iV 0, iV 0])], 7⟩) ?_ ?_
  · exact Weak.by rfl rfl (fun id h => by rw [List.mem_singleton.1 h]; show 4 < 7; omega) (Nat.le_refl _) (Nat.le_refl _) ⟨⟨rfl, .inl rfl⟩, ⟨rfl, .inl rfl⟩, trivial⟩ ⟨⟨rfl, by show _ < 7; omega, .inl rfl⟩, ⟨rfl, by show _ < 7; omega, .inl rfl⟩, ⟨rfl, by show _ < 7; omega, .inl rfl⟩, ⟨rfl, by show _ < 7; omega, .inl rfl⟩, trivial⟩
  refine SW.freezeZ (fun j => Nat.beq j 6) 3 (by rfl) ?_
  obtain ⟨NN, hNN⟩ : ∃ NN, NN = m + 1 := ⟨_, rfl⟩
  refine SW.preR (f2 := ⟨⟨24, getT [(4, .ptr 2 0), (5, .ptr 3 0)]⟩, [4]⟩) (st2 := ⟨[(4, .dfr), (3, .cells none false [intsV NN false V]), (2, .cells none false [iV 0, iV 0])] ++ [], 7⟩) (ρ := ren1 7 7) ?_ ?_
  · refine WeakR.up rfl rfl (fun id h => by rw [List.mem_singleton.1 h]; show 4 < 7; omega) (Nat.le_refl _) (.inl rfl) (Nat.le_refl _) ⟨RenV.ptr (by omega), RenV.ptr (by omega), trivial⟩
      ⟨⟨by omega, _, rfl, .dfr, .inr rfl⟩, ⟨by omega, _, rfl, .cells (.cons (RenV.eqv (RenV.closed (intsV_below _ _ _)) ?_) .nil), .inr rfl⟩, ⟨by omega, _, rfl, .cells (.cons (RenV.closed Below.lit) (.cons (RenV.closed Below.lit) .nil)), .inr rfl⟩, trivial⟩ (fun p hp => by cases hp)
    rw [frz_slE (fm := none) (G := G) rfl rfl (by rw [hG, flatG_length]; omega), hNN]
    exact Eqv.isl rfl fun i k hi hk => Eqv.of (by rw [hG]; exact frz_flat hi hk rfl)
  have hN0 : (0 : Int) < Int.ofNat NN := by rw [hNN]; exact Int.ofNat_lt.2 (Nat.succ_pos m)
  have hmin : leN (V 0) (fun i => V (1 + i)) m = lo := by
    obtain ⟨⟨h1, h2⟩, h3⟩ := leN_le (V 0) (fun i => V (1 + i)) m
    obtain ⟨i, hi, hVi⟩ := hlo
    have hge : leN (V 0) (fun i => V (1 + i)) m ≤ lo := by
      rw [← hVi]
      cases i with
      | zero => exact h1
      | succ i =>
        have h4 : leN (V 0) (fun i => V (1 + i)) m ≤ V (1 + i) := h2 i (by omega)
        rw [show 1 + i = i + 1 by omega] at h4; exact h4
    have hle : lo ≤ leN (V 0) (fun i => V (1 + i)) m := by
      rcases h3 with h3 | ⟨j, hj, h3⟩
      · rw [h3]; exact hlo' 0 (by omega)
      · rw [h3]; exact hlo' (1 + j) (by omega)
    omega
  have hmax : grN (V 0) (fun i => V (i + 1)) m = hi := by
    obtain ⟨⟨h1, h2⟩, h3⟩ := grN_ge (V 0) (fun i => V (i + 1)) m
    obtain ⟨i, hi', hVi⟩ := hhi
    have hge : hi ≤ grN (V 0) (fun i => V (i + 1)) m := by
      rw [← hVi]
      cases i with
      | zero => exact h1
      | succ i => exact h2 i (by omega)
    have hle : grN (V 0) (fun i => V (i + 1)) m ≤ hi := by
      rcases h3 with h3 | ⟨j, hj, h3⟩
      · rw [h3]; exact hhi' 0 (by omega)
      · rw [h3]; exact hhi' (j + 1) (by omega)
    omega
  have c97 : Pure Try.prog 97 [iV (V (O.nat 0)), .isl (O.sub NN (O.nat 1)) 1 false (fun i => intC V (O.add (O.nat 1) i))] (iV lo) := by
    subst hO
    show Pure Try.prog 97 [iV (V 0), intsV (NN - 1) false (fun i => V (1 + i))] (iV lo)
    rw [hNN, Nat.add_sub_cancel, ← hmin]
    exact least_ok (V 0) m false (fun i => V (1 + i)) (by omega)
  have c98 : Pure Try.prog 98 [.isl NN 1 false (intC V)] (iV hi) := by
    have := greatest_ok NN false V (by omega) (by omega)
    rw [hNN, Nat.add_sub_cancel, hmax, ← hNN] at this
    exact this
  refine SW.seqRunD tok mixed hO (by rfl) (by cbv <;> rfl) ?_ ?_
  · have hn1 : O.nat 1 = 1 := by subst hO; rfl
    refine ⟨?_, Nat.le_refl _, (by decide : (0 : Int) ≤ 1), Int.le_refl _, hN0⟩
    show O.nat 1 ≤ NN
    rw [hn1]; omega
  refine AnyE.callP c97 (by cbv <;> rfl) (by cbv <;> rfl) ?_
  refine AnyE.run tok hO (by rfl) (by cbv <;> rfl) (by trivial) ?_
  refine AnyE.callP c98 (by cbv <;> rfl) (by cbv <;> rfl) ?_
  refine AnyE.run tok hO (by rfl) (by cbv <;> rfl) (by trivial) ?_
  refine AnyE.eff tok hO (by cbv <;> rfl) (by cbv <;> rfl) (by trivial) ?_
  refine AnyE.done (by rfl) ?_
  exact SW.ret ⟨_, _, rfl, rfl, rfl, Eqv.of rfl⟩
theorem ends65 (g : FuncId) (nw nl : Nat) (A B C D : Nat → Nat → Int) (a b c e : Nat → Int) (L : Nat) (h0L : 0 < L) (hL : L < 100000) (V : Nat → Int)
    (hof : ∀ i, i < L → Pure Try.prog g [.agg [intsV nw false (A i), intsV nl false (B i), intsV nw false (C i), intsV nw false (D i), iV (a i), iV (b i), iV (c i), iV (e i)]] (iV (V i))) (lo hi : Int)
    (hlo : ∃ i, i < L ∧ V i = lo) (hlo' : ∀ i, i < L → lo ≤ V i) (hhi : ∃ i, i < L ∧ V i = hi) (hhi' : ∀ i, i < L → V i ≤ hi) {st : St} {bid : Nat} {fm : Option Nat} {ro : Bool}
    (hc : st.h.get bid = some (.cells fm ro [.isl L 8 false (outX nw nl A B C D a b c e)])) :
    CallW Try.prog 65 [.fn (.func 100) [] [.ptr bid 0], .fn (.func g) [] []] st (fun v st' => v = rangeV lo hi ∧ st' = st) := by
  refine call_ro (args2 := [.fn (.func 100) [] [.ptr 0 0], .fn (.func g) [] []]) hc (fun x hx => by rw [List.mem_singleton.1 hx]; exact outX_below _ _ _ _ _ _ _ _ _ _ _) (Below.agg (AllB.ok ⟨Below.lit, Below.lit, trivial⟩)) (fun φ us h => ?_) (ends65_core g nw nl A B C D a b c e L h0L hL V hof lo hi hlo hlo' hhi hhi')
  cases h with
  | cons h1 h2 =>
    obtain ⟨us1, vs1, rfl, k1, k2⟩ := h1.fn_inv
    cases h2 with
    | cons h3 h4 =>
      obtain ⟨us2, vs2, rfl, k3, k4⟩ := h3.fn_inv
      cases h4
      cases k1; cases k3; cases k4
      cases k2 with
      | cons k5 k6 =>
        cases k6
        obtain ⟨rfl, _⟩ := k5.ptr_inv
        refine .cons (.fn _ .nil (.cons ?_ .nil)) (.cons (.fn _ .nil .nil) .nil)
        exact VR.ptr (φ := ⟨fun _ => φ.f bid, 1, φ.z⟩) 0 0 (by show 0 < 1; omega)
end Go.Fz
namespace Go.Fz
open Go.Proofs
set_option maxRecDepth 100000
def toPK (p : Int × Int) : PK := if h : inK p = true then ⟨p, h⟩ else ⟨(0, 0), rfl⟩
theorem toPK_val {p : Int × Int} (h : inK p = true) : (toPK p).1 = p := by unfold toPK; rw [dif_pos h]
theorem number_ok (f s : Int) : Pure Try.prog 61 [pileV f s] (iV f) := by
  obtain ⟨O, hO⟩ : ∃ O : Ar, O = std := ⟨_, rfl⟩
  refine pure_of_body tok 3 Try.func61 en61 rfl ⟨Below.agg (AllB.ok ⟨Below.lit, Below.lit, trivial⟩), trivial⟩ Below.lit ?_
  refine SW.seqRun tok hO (by cbv <;> rfl) (by trivial) ?_
  refine SW.seqRun tok hO (by cbv <;> rfl) (by trivial) ?_
  exact SW.ret ⟨_, _, rfl, rfl, Eqv.of rfl⟩
section
variable (nw nl : Nat) (f0 f1 f2 f3 : Nat → Int) (z4 z5 z6 z7 : Int)
theorem elem_below : Below 0 (.agg [intsV nw false f0, intsV nl false f1, intsV nw false f2, intsV nw false f3, iV z4, iV z5, iV z6, iV z7]) :=
  Below.agg (AllB.ok ⟨intsV_below _ _ _, intsV_below _ _ _, intsV_below _ _ _, intsV_below _ _ _, Below.lit, Below.lit, Below.lit, Below.lit, trivial⟩)
theorem of66_ok : Pure Try.prog 66 [.agg [intsV nw false f0, intsV nl false f1, intsV nw false f2, intsV nw false f3, iV z4, iV z5, iV z6, iV z7]] (iV z4) := by
  obtain ⟨O, hO⟩ : ∃ O : Ar, O = std := ⟨_, rfl⟩
  refine pure_of_body tok 3 Try.func66 en66 rfl ⟨elem_below _ _ _ _ _ _ _ _ _ _, trivial⟩ Below.lit ?_
  refine SW.seqRun tok hO (by cbv <;> rfl) (by trivial) ?_
  refine SW.seqRun tok hO (by cbv <;> rfl) (by trivial) ?_
  exact SW.ret ⟨_, _, rfl, rfl, Eqv.of rfl⟩
theorem of67_ok : Pure Try.prog 67 [.agg [intsV nw false f0, intsV nl false f1, intsV nw false f2, intsV nw false f3, iV z4, iV z5, iV z6, iV z7]] (iV z5) := by
  obtain ⟨O, hO⟩ : ∃ O : Ar, O = std := ⟨_, rfl⟩
  refine pure_of_body tok 3 Try.func67 en67 rfl ⟨elem_below _ _ _ _ _ _ _ _ _ _, trivial⟩ Below.lit ?_
  refine SW.seqRun tok hO (by cbv <;> rfl) (by trivial) ?_
  refine SW.seqRun tok hO (by cbv <;> rfl) (by trivial) ?_
  exact SW.ret ⟨_, _, rfl, rfl, Eqv.of rfl⟩
theorem of68_ok : Pure Try.prog 68 [.agg [intsV nw false f0, intsV nl false f1, intsV nw false f2, intsV nw false f3, iV z4, iV z5, iV z6, iV z7]] (iV z6) := by
  obtain ⟨O, hO⟩ : ∃ O : Ar, O = std := ⟨_, rfl⟩
  refine pure_of_body tok 3 Try.func68 en68 rfl ⟨elem_below _ _ _ _ _ _ _ _ _ _, trivial⟩ Below.lit ?_
  refine SW.seqRun tok hO (by cbv <;> rfl) (by trivial) ?_
  refine SW.seqRun tok hO (by cbv <;> rfl) (by trivial) ?_
  exact SW.ret ⟨_, _, rfl, rfl, Eqv.of rfl⟩
theorem of69_ok : Pure Try.prog 69 [.agg [intsV nw false f0, intsV nl false f1, intsV nw false f2, intsV nw false f3, iV z4, iV z5, iV z6, iV z7]] (iV z7) := by
  obtain ⟨O, hO⟩ : ∃ O : Ar, O = std := ⟨_, rfl⟩
  refine pure_of_body tok 3 Try.func69 en69 rfl ⟨elem_below _ _ _ _ _ _ _ _ _ _, trivial⟩ Below.lit ?_
  refine SW.seqRun tok hO (by cbv <;> rfl) (by trivial) ?_
  refine SW.seqRun tok hO (by cbv <;> rfl) (by trivial) ?_
  exact SW.ret ⟨_, _, rfl, rfl, Eqv.of rfl⟩
end
set_option maxHeartbeats 16000000 in
theorem had_ok (d : DayD) (w : Nat) (hw : w < d.nw) (hnl : d.nl < 1000) (L : Nat) (hL : L < 100000) (A B C D : Nat → Nat → Int) (a b c e : Nat → Int) (mb : Option Nat) (K : Nat → PK) (hin : ∀ i, i < L → (K i).1 = (A i w, stemN d (B i) w d.nl)) :
    Fresh Try.prog 58 [.agg [iV d.hand, iV d.flat, womsV d, lotsV d, cntsV d, .isl L 8 false (outX d.nw d.nl A B C D a b c e), .lit (.map mb)], iV w] (fun k => .mp k) (mapE pkV (pkP K L).1) (pkP K L).2 := by
  obtain ⟨O, hO⟩ : ∃ O : Ar, O = std := ⟨_, rfl⟩
  have hnat : ∀ i : Nat, O.nat (Int.ofNat i) = i := fun i => by subst hO; rfl
  have hGb := outX_below d.nw d.nl A B C D a b c e L
  have hcl : ∀ E : List (PK × Nat), ∀ x ∈ mapE pkV E, Below 0 x.1 ∧ Below 0 x.2.1 := fun E x hx => by
    obtain ⟨p, _, rfl⟩ := List.mem_map.1 hx
    exact ⟨pkV_below _, Below.lit⟩
  have hcells : ∀ x ∈ [iV d.hand, iV d.flat, womsV d, lotsV d, cntsV d, .isl L 8 false (outX d.nw d.nl A B C D a b c e), .lit (.map mb)], Below 0 x := AllB.ok ⟨Below.lit, Below.lit, womsV_below d, lotsV_below d, cntsV_below d, hGb, Below.lit, trivial⟩
  refine fresh_of_body tok 3 Try.func58 en58 rfl ⟨Below.agg hcells, Below.lit, trivial⟩ (hcl _) ?_
  refine SW.seqRun tok hO (by cbv <;> rfl) (by trivial) ?_
  refine SW.seq (SW.runN tok hO 0 (by cbv <;> rfl) (by trivial) ?_)
  refine OpsW.mkMap (by rfl) ?_
  refine OpsW.run tok hO (by cbv <;> rfl) (by trivial) ?_
  refine SW.seq ?_
  refine SW.seqRun tok hO (by cbv <;> rfl) (by trivial) ?_
  refine (SW.block (SW.loopM (fun i : Nat => ⟨⟨25, getT [(1, iV w), (2, .ptr 0 0), (5, .mp 1), (10, .isl L 8 false (outX d.nw d.nl A B C D a b c e)), (11, iV L), (12, iV i)]⟩, []⟩)
    (fun i => ⟨[(1, .map (mapE pkV (pkP K i).1) (pkP K i).2), (0, .cells none false [iV d.hand, iV d.flat, womsV d, lotsV d, cntsV d, .isl L 8 false (outX d.nw d.nl A B C D a b c e), .lit (.map mb)])], 2⟩) (fun i => L - i) (fun i => i ≤ L) 0
    (fun _ => rfl) (Nat.zero_le _) (Weak.by rfl rfl (by simp) (Nat.le_refl _) (Nat.le_refl _) ⟨⟨rfl, .inl rfl⟩, ⟨rfl, .inl rfl⟩, ⟨rfl, .inl rfl⟩, ⟨rfl, .inl rfl⟩, ⟨rfl, .inl rfl⟩, ⟨rfl, .inl rfl⟩, trivial⟩ ⟨⟨rfl, by show 1 < 2; omega, .inl rfl⟩, ⟨rfl, by show 0 < 2; omega, .inl rfl⟩, trivial⟩) fun i hi => ?_))
  obtain ⟨E, hE⟩ : ∃ E, (pkP K i).1 = E := ⟨_, rfl⟩
  obtain ⟨c2, hc2⟩ : ∃ E, (pkP K i).2 = E := ⟨_, rfl⟩
  rw [hE, hc2]
  obtain ⟨ME2, hME2⟩ : ∃ m, mapE pkV E = m := ⟨_, rfl⟩
  have hclE := hcl E
  rw [hME2] at hclE ⊢
  refine SW.seqRun tok hO (by cbv <;> rfl) (by trivial) ?_
  refine SW.seq (SW.condS (by cbv <;> rfl) (fun h => SW.skip ?_) (fun h => SW.exit ?_))
  · have hlt : i < L := by subst hO; simpa [std] using h
    have hi0 : (0 : Int) ≤ Int.ofNat i := Int.natCast_nonneg i
    have hp := pile_ok d ⟨d.nw, false, A i, d.nl, false, B i⟩ w hw (Nat.le_refl _) hnl
    have hk := hin i hlt
    have hp2 : Pure Try.prog 96 [dayV d, .agg [intsV d.nw false (A i), intsV d.nl false (B i)], iV w] (pkV (K i)) := by
      have e1 : pkV (K i) = pileV (A i w) (stemN d (B i) w d.nl) := by unfold pkV; rw [hk]; rfl
      rw [e1]; exact hp
    have hev : ∀ f : Nat → Nat → Int, f i = f (O.nat (Int.ofNat i)) := fun f => by rw [hnat]
    rw [hev A, hev B] at hp2
    obtain ⟨kk, hkk⟩ : ∃ k, K i = k := ⟨_, rfl⟩
    rw [hkk] at hp2
    have hpk : pkV kk = .agg [iV kk.1.1, iV kk.1.2] := rfl
    refine SW.seq (SW.block ?_)
    refine SW.seqRun tok hO (by cbv <;> rfl) ?_ ?_
    · exact ⟨hi0, Int.ofNat_lt.2 hlt⟩
    refine SW.runN tok hO 6 (by cbv <;> rfl) (by trivial) ?_
    refine OpsW.callP hp2 (by cbv <;> rfl) ?_
    refine OpsW.mapUpd tok keyed121 pkKey (b := kk) (id := 1) (E := E) (clock := c2) (by cbv <;> rfl) (by kernel_rfl) (by rw [hME2]; rfl) ?_
    have hs : pkP K (i + 1) = (updE E kk c2, updC E kk c2) := by rw [← hE, ← hc2, ← hkk]; rfl
    have hclE3 := hcl (updE E kk c2)
    obtain ⟨ME3, hME3⟩ : ∃ m, mapE pkV (updE E kk c2) = m := ⟨_, rfl⟩
    obtain ⟨c3, hc3⟩ : ∃ m, updC E kk c2 = m := ⟨_, rfl⟩
    rw [hME3] at hclE3
    rw [hME3, hc3]
    refine OpsW.nil ?_
    refine SW.run tok hO (by cbv <;> rfl) (by trivial) ?_
    refine ⟨i + 1, by omega, hlt, ?_⟩
    rw [hs]
    simp only
    rw [hME3, hc3]
    refine WeakM.by rfl rfl (fun _ h => nomatch h) (Nat.le_refl _) (by show 2 ≤ 3; omega) ⟨⟨rfl, .inr Below.lit⟩, ⟨rfl, .inr (Below.ptr (by omega))⟩, ⟨rfl, .inr (Below.mp (by omega))⟩, ⟨rfl, .inr (Below.up (m := 0) hGb)⟩, ⟨rfl, .inr Below.lit⟩, ⟨inc_ok hO (by omega), .inr Below.lit⟩, trivial⟩
      ⟨⟨rfl, by show 1 < 2; omega, .inr fun x hx => ⟨Below.up (m := 0) (hclE3 x hx).1, Below.up (m := 0) (hclE3 x hx).2⟩⟩, ⟨rfl, by show 0 < 2; omega, .inr ⟨fun x hx => Below.up (m := 0) (hcells x hx), fun _ h => nomatch h⟩⟩, trivial⟩
  · have hge : i = L := by
      have : L ≤ i := by subst hO; simpa [std] using h
      omega
    subst hge
    rw [hE, hc2, hME2]
    refine SW.seqRun tok hO (by cbv <;> rfl) (by trivial) ?_
    exact SW.ret ⟨_, _, rfl, rfl, 1, rfl, rfl, NewV.mp⟩
end Go.Fz
namespace Go.Fz
open Go.Proofs
set_option maxRecDepth 100000
section
theorem WeakR.tabG {n0 : Nat} {tb : List (Nat × Nat)} {f1 : Fm} {st1 : St} {l : List (Nat × AV)} {len : Nat} {dm : List Nat} {h2 : Hp} {n2 : Nat} (F : Nat → Option Nat) (hF : ∀ i j f, F i = some f → F j = some f → i = j) (e1 : len = f1.ts.len) (e2 : dm = f1.dm) (e3 : ∀ id ∈ dm, id < n0) (hid : (tb.all fun p => Nat.ble n0 p.1) = true) (lo : n0 ≤ n2)
    (hinj : (h2.all fun p => h2.all fun q => !(Nat.beq (tabR tb p.1) (tabR tb q.1)) || Nat.beq p.1 q.1) = true)
    (get : AllP (fun p => RenV (tabR tb) n2 p.2 (f1.ts.get p.1)) l) (obj : AllP (fun p => p.1 < n2 ∧ ∃ o1, st1.h.get (tabR tb p.1) = some o1 ∧ RenO (tabR tb) n2 p.2 o1 ∧ o1.fam = F p.1) h2) : WeakR n0 (tabR tb) f1 st1 ⟨⟨len, getT l⟩, dm⟩ ⟨h2, n2⟩ := by
  have ho := obj.ok
  have hj := inj_of hinj
  refine ⟨e1, e2, e3, tabR_id hid, fun i => ?_, lo, fun id o h => ?_, fun i j oi oj hi hj' hij pi pj h1 h2 => ⟨fun h => hij ?_, fun ⟨f, k1, k2⟩ => ?_⟩⟩
  · show RenV _ n2 (getT l i) _
    have hg := get.ok
    clear get obj ho hj hinj
    induction l with
    | nil => exact RenV.any
    | cons p r ih =>
      obtain ⟨j, a⟩ := p
      simp only [getT]
      cases hb : Nat.beq j i with
      | true =>
        obtain rfl := Nat.eq_of_beq_eq_true hb
        exact hg _ List.mem_cons_self
      | false => exact ih fun q hq => hg q (List.mem_cons_of_mem _ hq)
  · obtain ⟨h3, o1, h4, h5, _⟩ := ho _ (Hp.mem_of_get h)
    exact ⟨h3, o1, h4, h5⟩
  · exact hj _ (Hp.mem_of_get hi) _ (Hp.mem_of_get hj') h
  · obtain ⟨_, o1, h3, _, h4⟩ := ho _ (Hp.mem_of_get hi)
    obtain ⟨_, o2, h5, _, h6⟩ := ho _ (Hp.mem_of_get hj')
    rw [show tabR tb (i, oi).1 = tabR tb i from rfl, h1] at h3
    rw [show tabR tb (j, oj).1 = tabR tb j from rfl, h2] at h5
    cases h3; cases h5
    exact hij (hF i j f (h4.symm.trans k1) (h6.symm.trans k2))
end
theorem keys60 (m : Nat) (st : St) : CallW Try.prog 60 [.mp m] st (fun v st' => v = .fn (.func 99) [] [.ptr st.n 0] ∧ st' = st.push (.cells none false [.mp m])) := by
  obtain ⟨O, hO⟩ : ∃ O : Ar, O = std := ⟨_, rfl⟩
  refine callW_of_body tok Try.func60 rfl ?_
  refine SW.seqRun tok hO (by cbv <;> rfl) (by trivial) ?_
  refine SW.seqRun tok hO (by cbv <;> rfl) (by trivial) ?_
  exact SW.ret ⟨_, _, rfl, rfl, rfl, rfl⟩
theorem values64 (L : Nat) (G : Nat → Nat → AV) (st : St) : CallW Try.prog 64 [.isl L 8 false G] st (fun v st' => v = .fn (.func 100) [] [.ptr st.n 0] ∧ st' = st.push (.cells none false [.isl L 8 false G])) := by
  obtain ⟨O, hO⟩ : ∃ O : Ar, O = std := ⟨_, rfl⟩
  refine callW_of_body tok Try.func64 rfl ?_
  refine SW.seqRun tok hO (by cbv <;> rfl) (by trivial) ?_
  refine SW.seqRun tok hO (by cbv <;> rfl) (by trivial) ?_
  exact SW.ret ⟨_, _, rfl, rfl, rfl, rfl⟩
structure WomanE (d : DayD) (Y : AV) (lo0 hi0 lo1 hi1 lo2 hi2 : Nat → Int) (w : Nat) (ME : List (AV × AV × Nat)) (c : Nat) : Prop where
  cl : ∀ x ∈ ME, Below 0 x.1 ∧ Below 0 x.2.1
  had : ∀ st, CallW Try.prog 58 [.agg [iV d.hand, iV d.flat, womsV d, lotsV d, cntsV d, Y, .mp 2], iV w] st (fun v st' => v = .mp st.n ∧ st' = st.push (.map ME c))
  e61 : ∀ {st : St} {mid bid : Nat} {fm : Option Nat} {ro : Bool}, st.h.get mid = some (.map ME c) → st.h.get bid = some (.cells fm ro [.mp mid]) → CallW Try.prog 59 [.fn (.func 99) [] [.ptr bid 0], .fn (.func 61) [] []] st (fun v st' => v = rangeV (lo0 w) (hi0 w) ∧ st' = st)
  e62 : ∀ {st : St} {mid bid : Nat} {fm : Option Nat} {ro : Bool}, st.h.get mid = some (.map ME c) → st.h.get bid = some (.cells fm ro [.mp mid]) → CallW Try.prog 59 [.fn (.func 99) [] [.ptr bid 0], .fn (.func 62) [] []] st (fun v st' => v = rangeV (lo1 w) (hi1 w) ∧ st' = st)
  e63 : ∀ {st : St} {mid bid : Nat} {fm : Option Nat} {ro : Bool}, st.h.get mid = some (.map ME c) → st.h.get bid = some (.cells fm ro [.mp mid]) → CallW Try.prog 59 [.fn (.func 99) [] [.ptr bid 0], .fn (.func 63) [] []] st (fun v st' => v = rangeV (lo2 w) (hi2 w) ∧ st' = st)
def TotalE (Y : AV) (g : FuncId) (lo hi : Int) : Prop := ∀ {st : St} {bid : Nat} {fm : Option Nat} {ro : Bool}, st.h.get bid = some (.cells fm ro [Y]) → CallW Try.prog 65 [.fn (.func 100) [] [.ptr bid 0], .fn (.func g) [] []] st (fun v st' => v = rangeV lo hi ∧ st' = st)
def bndC (nw : Nat) (lo0 hi0 lo1 hi1 lo2 hi2 : Nat → Int) (p q r s t u v w : Int) : List AV := [.isl nw 2 false (rngC lo0 hi0), .isl nw 2 false (rngC lo1 hi1), .isl nw 2 false (rngC lo2 hi2), iV p, iV q, iV r, iV s, iV t, iV u, iV v, iV w]
def bnd0 : List AV := [nl3, nl3, nl3, iV 0, iV 0, iV 0, iV 0, iV 0, iV 0, iV 0, iV 0]
def bndS (A B C : AV) : List AV := [A, B, C, iV 0, iV 0, iV 0, iV 0, iV 0, iV 0, iV 0, iV 0]
theorem rngC_below (lo hi : Nat → Int) (i k : Nat) : Below 0 (rngC lo hi i k) := by unfold rngC; split <;> exact Below.lit
def F567 (j : Nat) : Option Nat := if j = 5 ∨ j = 6 ∨ j = 7 then some j else none
theorem F567_inj : ∀ i j f, F567 i = some f → F567 j = some f → i = j := fun i j f hi hj => by
  unfold F567 at hi hj
  split at hi
  · split at hj
    · cases hi; cases hj; rfl
    · cases hj
  · cases hi
set_option maxHeartbeats 64000000 in
theorem bounds_core (d : DayD) (hpos : 0 < d.nw) (hnw : d.nw ≤ 4) (L : Nat) (G : Nat → Nat → AV) (hY : Below 0 (.isl L 8 false G)) (ME : List (AV × AV × Nat)) (cl : Nat)
    (lo0 hi0 lo1 hi1 lo2 hi2 : Nat → Int) (p q r s t u v w : Int)
    (e2 : Fresh Try.prog 57 [dayV d, .lit (.bool true)] (fun k => .tup [.agg [iV d.hand, iV d.flat, womsV d, lotsV d, cntsV d, .isl L 8 false G, .mp k], iV 0]) ME cl)
    (hw : ∀ i, i < d.nw → ∃ M c, WomanE d (.isl L 8 false G) lo0 hi0 lo1 hi1 lo2 hi2 i M c)
    (h66 : TotalE (.isl L 8 false G) 66 p q) (h67 : TotalE (.isl L 8 false G) 67 r s) (h68 : TotalE (.isl L 8 false G) 68 t u) (h69 : TotalE (.isl L 8 false G) 69 v w) :
    Pure Try.prog 18 [dayV d] (.tup [.agg (bndC d.nw lo0 hi0 lo1 hi1 lo2 hi2 p q r s t u v w), iV 0]) := by
  obtain ⟨O, hO⟩ : ∃ O : Ar, O = std := ⟨_, rfl⟩
  have hnat : ∀ i : Nat, O.nat (Int.ofNat i) = i := fun i => by subst hO; rfl
  have hcells : ∀ x ∈ [iV d.hand, iV d.flat, womsV d, lotsV d, cntsV d, .isl L 8 false G], Below 0 x := AllB.ok ⟨Below.lit, Below.lit, womsV_below d, lotsV_below d, cntsV_below d, hY, trivial⟩
  refine pure_of_body tok 5 Try.func18 en18 rfl ⟨dayV_below d, trivial⟩ (Below.tup (AllB.ok ⟨Below.agg (AllB.ok ⟨Below.isl fun i k _ _ => rngC_below _ _ i k, Below.isl fun i k _ _ => rngC_below _ _ i k, Below.isl fun i k _ _ => rngC_below _ _ i k, Below.lit, Below.lit, Below.lit, Below.lit, Below.lit, Below.lit, Below.lit, Below.lit, trivial⟩), Below.lit, trivial⟩)) ?_
  refine SW.seqRun tok hO (by cbv <;> rfl) (by trivial) ?_
  refine SW.seq (SW.runN tok hO 1 (by cbv <;> rfl) (by trivial) ?_)
  refine OpsW.callS e2.ent (e2.call _) (by cbv <;> rfl) fun v1 st' hk => ?_
  obtain ⟨rfl, rfl⟩ := hk
  refine OpsW.run tok hO (by cbv <;> rfl) (by trivial) ?_
  refine SW.seq ?_
  refine SW.seqRun tok hO (by cbv <;> rfl) (by trivial) ?_
  refine SW.condS (by cbv <;> rfl) (fun h1 => ?_) (fun h1 => SW.skip ?_)
  · exfalso
    subst hO; simp [std] at h1
  refine SW.seqRun tok hO (by cbv <;> rfl) (by trivial) ?_
  refine SW.seq ?_
  refine SW.seqRun tok hO (by cbv <;> rfl) (by trivial) ?_
  refine (SW.block (SW.loopR (fun i : Nat => ⟨⟨70, getT [(2, .ptr 1 0), (4, .ptr 3 0), (6, .ptr 4 0), (22, iV d.nw), (23, iV i)]⟩, []⟩)
    (fun i => ⟨[(4, .cells none false (bndS (slG 5 2 i) (slG 6 2 i) (slG 7 2 i))), (3, .cells none false [iV d.hand, iV d.flat, womsV d, lotsV d, cntsV d, .isl L 8 false G, .mp 2]), (1, .cells none false bnd0)] ++ (objG 5 2 (rngC lo0 hi0) i ++ (objG 6 2 (rngC lo1 hi1) i ++ objG 7 2 (rngC lo2 hi2) i)), 8⟩) (fun i => d.nw - i) (fun i => i ≤ d.nw) 0 (Nat.zero_le _) (tabR []) ?_ fun i hi => ?_))
  · exact WeakR.tabG (fun _ => none) (fun _ _ _ h => nomatch h) rfl rfl (by simp) (by rfl) (by show 5 ≤ 8; omega) (by rfl) ⟨RenV.ptr (by omega), RenV.ptr (by omega), RenV.ptr (by omega), RenV.closed Below.lit, RenV.closed Below.lit, trivial⟩
      ⟨⟨by omega, _, rfl, .cells (.cons (RenV.closed Below.lit) (.cons (RenV.closed Below.lit) (.cons (RenV.closed Below.lit) (.cons (RenV.closed Below.lit) (.cons (RenV.closed Below.lit) (.cons (RenV.closed Below.lit) (.cons (RenV.closed Below.lit) (.cons (RenV.closed Below.lit) (.cons (RenV.closed Below.lit) (.cons (RenV.closed Below.lit) (.cons (RenV.closed Below.lit) .nil))))))))))), rfl⟩,
        ⟨by omega, _, rfl, .cells (.cons (RenV.closed Below.lit) (.cons (RenV.closed Below.lit) (.cons (RenV.closed (womsV_below d)) (.cons (RenV.closed (lotsV_below d)) (.cons (RenV.closed (cntsV_below d)) (.cons (RenV.closed hY) (.cons (RenV.mp (by omega)) .nil))))))), rfl⟩,
        ⟨by omega, _, rfl, .cells (RenVs.closed (AllB.ok ⟨Below.lit, Below.lit, Below.lit, Below.lit, Below.lit, Below.lit, Below.lit, Below.lit, Below.lit, Below.lit, Below.lit, trivial⟩)), rfl⟩, trivial⟩
  cases i with
  | zero =>
    refine SW.seqRun tok hO (by cbv <;> rfl) (by trivial) ?_
    refine SW.seq (SW.condS (by cbv <;> rfl) (fun h => SW.skip ?_) (fun h => ?_))
    · obtain ⟨M, c, HW⟩ := hw 0 hpos
      have k61 := fun {st : St} {mid bid : Nat} {fm : Option Nat} {ro : Bool} (h1 : st.h.get mid = some (.map M c)) (h2 : st.h.get bid = some (.cells fm ro [.mp mid])) => HW.e61 h1 h2
      have k62 := fun {st : St} {mid bid : Nat} {fm : Option Nat} {ro : Bool} (h1 : st.h.get mid = some (.map M c)) (h2 : st.h.get bid = some (.cells fm ro [.mp mid])) => HW.e62 h1 h2
      have k63 := fun {st : St} {mid bid : Nat} {fm : Option Nat} {ro : Bool} (h1 : st.h.get mid = some (.map M c)) (h2 : st.h.get bid = some (.cells fm ro [.mp mid])) => HW.e63 h1 h2
      have khad := HW.had
      obtain ⟨a0, ha0⟩ : ∃ x, lo0 0 = x := ⟨_, rfl⟩
      obtain ⟨b0, hb0⟩ : ∃ x, hi0 0 = x := ⟨_, rfl⟩
      obtain ⟨a1, ha1⟩ : ∃ x, lo1 0 = x := ⟨_, rfl⟩
      obtain ⟨b1, hb1⟩ : ∃ x, hi1 0 = x := ⟨_, rfl⟩
      obtain ⟨a2, ha2⟩ : ∃ x, lo2 0 = x := ⟨_, rfl⟩
      obtain ⟨b2, hb2⟩ : ∃ x, hi2 0 = x := ⟨_, rfl⟩
      rw [ha0, hb0] at k61
      rw [ha1, hb1] at k62
      rw [ha2, hb2] at k63
      refine SW.seq (SW.block ?_)
      refine SW.seqRun tok hO (by cbv <;> rfl) (by trivial) ?_
      refine SW.seq (SW.runN tok hO 2 (by cbv <;> rfl) (by trivial) ?_)
      refine OpsW.callS en58 (khad _) (by cbv <;> rfl) fun v1 st' hk => ?_
      obtain ⟨rfl, rfl⟩ := hk
      refine OpsW.run tok hO (by cbv <;> rfl) (by trivial) ?_
      refine SW.seqRunD tok mixed hO (by rfl) (by cbv <;> rfl) (by trivial) ?_
      refine AnyE.many [3] (by cbv <;> rfl) (by rfl) ⟨?_, trivial⟩
      refine PickE.callE en60 (keys60 8 _) (by cbv <;> rfl) (by cbv <;> rfl) fun r st' hk => ?_
      obtain ⟨rfl, rfl⟩ := hk
      refine ⟨(by repeat (first | exact trivial | refine And.intro (by first | exact lv_of hO (by cbv <;> rfl) (by trivial) | (cbv <;> rfl)) ?_)), ?_⟩
      refine AnyE.run tok hO (by rfl) (by cbv <;> rfl) (by trivial) ?_
      refine AnyE.callS en59 (k61 rfl rfl) (by cbv <;> rfl) (by cbv <;> rfl) ?_
      refine AnyE.run tok hO (by rfl) (by cbv <;> rfl) (by trivial) ?_
      refine AnyE.effK tok hO (by cbv <;> rfl) (by cbv <;> rfl) (by trivial) ?_ ?_
      · exact (by repeat (first | exact trivial | refine And.intro (by first | exact lv_of hO (by cbv <;> rfl) (by trivial) | (cbv <;> rfl)) ?_))
      refine AnyE.run tok hO (by rfl) (by cbv <;> rfl) (by trivial) ?_
      refine AnyE.appNil tok (by cbv <;> rfl) (by cbv <;> rfl) (by rfl) (by kernel_rfl) (by rfl) (by rfl) ?_
      refine AnyE.run tok hO (by rfl) (by cbv <;> rfl) (by trivial) ?_
      refine AnyE.eff tok hO (by cbv <;> rfl) (by cbv <;> rfl) (by trivial) ?_
      refine AnyE.done (by rfl) ?_
      refine SW.seqRunD tok mixed hO (by rfl) (by cbv <;> rfl) (by trivial) ?_
      refine AnyE.many [3] (by cbv <;> rfl) (by rfl) ⟨?_, trivial⟩
      refine PickE.callE en60 (keys60 8 _) (by cbv <;> rfl) (by cbv <;> rfl) fun r st' hk => ?_
      obtain ⟨rfl, rfl⟩ := hk
      refine ⟨(by repeat (first | exact trivial | refine And.intro (by first | exact lv_of hO (by cbv <;> rfl) (by trivial) | (cbv <;> rfl)) ?_)), ?_⟩
      refine AnyE.run tok hO (by rfl) (by cbv <;> rfl) (by trivial) ?_
      refine AnyE.callS en59 (k62 rfl rfl) (by cbv <;> rfl) (by cbv <;> rfl) ?_
      refine AnyE.run tok hO (by rfl) (by cbv <;> rfl) (by trivial) ?_
      refine AnyE.effK tok hO (by cbv <;> rfl) (by cbv <;> rfl) (by trivial) ?_ ?_
      · exact (by repeat (first | exact trivial | refine And.intro (by first | exact lv_of hO (by cbv <;> rfl) (by trivial) | (cbv <;> rfl)) ?_))
      refine AnyE.run tok hO (by rfl) (by cbv <;> rfl) (by trivial) ?_
      refine AnyE.appNil tok (by cbv <;> rfl) (by cbv <;> rfl) (by rfl) (by kernel_rfl) (by rfl) (by rfl) ?_
      refine AnyE.run tok hO (by rfl) (by cbv <;> rfl) (by trivial) ?_
      refine AnyE.eff tok hO (by cbv <;> rfl) (by cbv <;> rfl) (by trivial) ?_
      refine AnyE.done (by rfl) ?_
      refine SW.runD tok mixed hO (by rfl) (by cbv <;> rfl) (by trivial) ?_
      refine AnyE.many [3] (by cbv <;> rfl) (by rfl) ⟨?_, trivial⟩
      refine PickE.callE en60 (keys60 8 _) (by cbv <;> rfl) (by cbv <;> rfl) fun r st' hk => ?_
      obtain ⟨rfl, rfl⟩ := hk
      refine ⟨(by repeat (first | exact trivial | refine And.intro (by first | exact lv_of hO (by cbv <;> rfl) (by trivial) | (cbv <;> rfl)) ?_)), ?_⟩
      refine AnyE.run tok hO (by rfl) (by cbv <;> rfl) (by trivial) ?_
      refine AnyE.callS en59 (k63 rfl rfl) (by cbv <;> rfl) (by cbv <;> rfl) ?_
      refine AnyE.run tok hO (by rfl) (by cbv <;> rfl) (by trivial) ?_
      refine AnyE.effK tok hO (by cbv <;> rfl) (by cbv <;> rfl) (by trivial) ?_ ?_
      · exact (by repeat (first | exact trivial | refine And.intro (by first | exact lv_of hO (by cbv <;> rfl) (by trivial) | (cbv <;> rfl)) ?_))
      refine AnyE.run tok hO (by rfl) (by cbv <;> rfl) (by trivial) ?_
      refine AnyE.appNil tok (by cbv <;> rfl) (by cbv <;> rfl) (by rfl) (by kernel_rfl) (by rfl) (by rfl) ?_
      refine AnyE.run tok hO (by rfl) (by cbv <;> rfl) (by trivial) ?_
      refine AnyE.eff tok hO (by cbv <;> rfl) (by cbv <;> rfl) (by trivial) ?_
      refine AnyE.done (by rfl) ?_
      refine SW.run tok hO (by cbv <;> rfl) (by trivial) ?_
      refine ⟨1, by omega, by omega, tabR [(5, 11), (6, 14), (7, 17)], ?_⟩
      refine WeakR.tabG (fun _ => none) (fun _ _ _ h => nomatch h) rfl rfl (by simp) (by rfl) (by show 5 ≤ 8; omega) (by rfl) ⟨RenV.ptr (by omega), RenV.ptr (by omega), RenV.ptr (by omega), RenV.closed Below.lit, RenV.inc hO (by omega), trivial⟩
        ⟨⟨by omega, _, rfl, .cells (.cons (RenV.sl (by omega)) (.cons (RenV.sl (by omega)) (.cons (RenV.sl (by omega)) (.cons (RenV.closed Below.lit) (.cons (RenV.closed Below.lit) (.cons (RenV.closed Below.lit) (.cons (RenV.closed Below.lit) (.cons (RenV.closed Below.lit) (.cons (RenV.closed Below.lit) (.cons (RenV.closed Below.lit) (.cons (RenV.closed Below.lit) .nil))))))))))), rfl⟩,
          ⟨by omega, _, rfl, .cells (.cons (RenV.closed Below.lit) (.cons (RenV.closed Below.lit) (.cons (RenV.closed (womsV_below d)) (.cons (RenV.closed (lotsV_below d)) (.cons (RenV.closed (cntsV_below d)) (.cons (RenV.closed hY) (.cons (RenV.mp (by omega)) .nil))))))), rfl⟩,
          ⟨by omega, _, rfl, .cells (RenVs.closed (AllB.ok ⟨Below.lit, Below.lit, Below.lit, Below.lit, Below.lit, Below.lit, Below.lit, Below.lit, Below.lit, Below.lit, Below.lit, trivial⟩)), rfl⟩,
          ⟨by omega, _, rfl, .cells (RenVs.of_eq (by rw [← ha0, ← hb0]; rfl) (flatG_below (rngC_below lo0 hi0) 1)), rfl⟩, ⟨by omega, _, rfl, .cells (RenVs.of_eq (by rw [← ha1, ← hb1]; rfl) (flatG_below (rngC_below lo1 hi1) 1)), rfl⟩, ⟨by omega, _, rfl, .cells (RenVs.of_eq (by rw [← ha2, ← hb2]; rfl) (flatG_below (rngC_below lo2 hi2) 1)), rfl⟩, trivial⟩
    · exfalso
      have : d.nw ≤ 0 := by subst hO; simpa [std] using h
      omega
  | succ i =>
    obtain ⟨G0, hG0⟩ : ∃ G, G = flatG 2 (rngC lo0 hi0) (i + 1) := ⟨_, rfl⟩
    obtain ⟨G1, hG1⟩ : ∃ G, G = flatG 2 (rngC lo1 hi1) (i + 1) := ⟨_, rfl⟩
    obtain ⟨G2, hG2⟩ : ∃ G, G = flatG 2 (rngC lo2 hi2) (i + 1) := ⟨_, rfl⟩
    show SW _ _ _ _ _ ⟨[(4, .cells none false (bndS (.sl 5 0 (i + 1) 2 false) (.sl 6 0 (i + 1) 2 false) (.sl 7 0 (i + 1) 2 false))), (3, .cells none false [iV d.hand, iV d.flat, womsV d, lotsV d, cntsV d, .isl L 8 false G, .mp 2]), (1, .cells none false bnd0)] ++ ([(5, .cells none false (flatG 2 (rngC lo0 hi0) (i + 1)))] ++ ([(6, .cells none false (flatG 2 (rngC lo1 hi1) (i + 1)))] ++ [(7, .cells none false (flatG 2 (rngC lo2 hi2) (i + 1)))])), 8⟩
    rw [← hG0, ← hG1, ← hG2]
    refine SW.seqRun tok hO (by cbv <;> rfl) (by trivial) ?_
    refine SW.seq (SW.condS (by cbv <;> rfl) (fun h => SW.skip ?_) (fun h => ?_))
    · have hlt : i + 1 < d.nw := by
        have : ((i + 1 : Nat) : Int) < (d.nw : Int) := by subst hO; simpa [std] using h
        omega
      obtain ⟨M, c, HW⟩ := hw (i + 1) hlt
      have k61 := fun {st : St} {mid bid : Nat} {fm : Option Nat} {ro : Bool} (h1 : st.h.get mid = some (.map M c)) (h2 : st.h.get bid = some (.cells fm ro [.mp mid])) => HW.e61 h1 h2
      have k62 := fun {st : St} {mid bid : Nat} {fm : Option Nat} {ro : Bool} (h1 : st.h.get mid = some (.map M c)) (h2 : st.h.get bid = some (.cells fm ro [.mp mid])) => HW.e62 h1 h2
      have k63 := fun {st : St} {mid bid : Nat} {fm : Option Nat} {ro : Bool} (h1 : st.h.get mid = some (.map M c)) (h2 : st.h.get bid = some (.cells fm ro [.mp mid])) => HW.e63 h1 h2
      have khad := HW.had
      obtain ⟨a0, ha0⟩ : ∃ x, lo0 (i + 1) = x := ⟨_, rfl⟩
      obtain ⟨b0, hb0⟩ : ∃ x, hi0 (i + 1) = x := ⟨_, rfl⟩
      obtain ⟨a1, ha1⟩ : ∃ x, lo1 (i + 1) = x := ⟨_, rfl⟩
      obtain ⟨b1, hb1⟩ : ∃ x, hi1 (i + 1) = x := ⟨_, rfl⟩
      obtain ⟨a2, ha2⟩ : ∃ x, lo2 (i + 1) = x := ⟨_, rfl⟩
      obtain ⟨b2, hb2⟩ : ∃ x, hi2 (i + 1) = x := ⟨_, rfl⟩
      rw [ha0, hb0] at k61
      rw [ha1, hb1] at k62
      rw [ha2, hb2] at k63
      refine SW.seq (SW.block ?_)
      refine SW.seqRun tok hO (by cbv <;> rfl) (by trivial) ?_
      refine SW.seq (SW.runN tok hO 2 (by cbv <;> rfl) (by trivial) ?_)
      refine OpsW.callS en58 (khad _) (by cbv <;> rfl) fun v1 st' hk => ?_
      obtain ⟨rfl, rfl⟩ := hk
      refine OpsW.run tok hO (by cbv <;> rfl) (by trivial) ?_
      refine SW.seqRunD tok mixed hO (by rfl) (by cbv <;> rfl) (by trivial) ?_
      refine AnyE.many [3] (by cbv <;> rfl) (by rfl) ⟨?_, trivial⟩
      refine PickE.callE en60 (keys60 8 _) (by cbv <;> rfl) (by cbv <;> rfl) fun r st' hk => ?_
      obtain ⟨rfl, rfl⟩ := hk
      refine ⟨(by repeat (first | exact trivial | refine And.intro (by first | exact lv_of hO (by cbv <;> rfl) (by trivial) | (cbv <;> rfl)) ?_)), ?_⟩
      refine AnyE.run tok hO (by rfl) (by cbv <;> rfl) (by trivial) ?_
      refine AnyE.callS en59 (k61 rfl rfl) (by cbv <;> rfl) (by cbv <;> rfl) ?_
      refine AnyE.run tok hO (by rfl) (by cbv <;> rfl) (by trivial) ?_
      refine AnyE.effK tok hO (by cbv <;> rfl) (by cbv <;> rfl) (by trivial) ?_ ?_
      · exact (by repeat (first | exact trivial | refine And.intro (by first | exact lv_of hO (by cbv <;> rfl) (by trivial) | (cbv <;> rfl)) ?_))
      refine AnyE.run tok hO (by rfl) (by cbv <;> rfl) (by trivial) ?_
      refine AnyE.appOne (g := rngC lo0 hi0) (len := i + 1) tok (by cbv <;> rfl) (by cbv <;> rfl) (by rfl) (by rfl) hG0 (by kernel_rfl) (by rfl) (by rfl) (by omega) fun H0 hH0 => ?_
      refine AnyE.run tok hO (by rfl) (by cbv <;> rfl) (by trivial) ?_
      refine AnyE.eff tok hO (by cbv <;> rfl) (by cbv <;> rfl) (by trivial) ?_
      refine AnyE.done (by rfl) ?_
      refine SW.seqRunD tok mixed hO (by rfl) (by cbv <;> rfl) (by trivial) ?_
      refine AnyE.many [3] (by cbv <;> rfl) (by rfl) ⟨?_, trivial⟩
      refine PickE.callE en60 (keys60 8 _) (by cbv <;> rfl) (by cbv <;> rfl) fun r st' hk => ?_
      obtain ⟨rfl, rfl⟩ := hk
      refine ⟨(by repeat (first | exact trivial | refine And.intro (by first | exact lv_of hO (by cbv <;> rfl) (by trivial) | (cbv <;> rfl)) ?_)), ?_⟩
      refine AnyE.run tok hO (by rfl) (by cbv <;> rfl) (by trivial) ?_
      refine AnyE.callS en59 (k62 rfl rfl) (by cbv <;> rfl) (by cbv <;> rfl) ?_
      refine AnyE.run tok hO (by rfl) (by cbv <;> rfl) (by trivial) ?_
      refine AnyE.effK tok hO (by cbv <;> rfl) (by cbv <;> rfl) (by trivial) ?_ ?_
      · exact (by repeat (first | exact trivial | refine And.intro (by first | exact lv_of hO (by cbv <;> rfl) (by trivial) | (cbv <;> rfl)) ?_))
      refine AnyE.run tok hO (by rfl) (by cbv <;> rfl) (by trivial) ?_
      refine AnyE.appOne (g := rngC lo1 hi1) (len := i + 1) tok (by cbv <;> rfl) (by cbv <;> rfl) (by rfl) (by rfl) hG1 (by kernel_rfl) (by rfl) (by rfl) (by omega) fun H1 hH1 => ?_
      refine AnyE.run tok hO (by rfl) (by cbv <;> rfl) (by trivial) ?_
      refine AnyE.eff tok hO (by cbv <;> rfl) (by cbv <;> rfl) (by trivial) ?_
      refine AnyE.done (by rfl) ?_
      refine SW.runD tok mixed hO (by rfl) (by cbv <;> rfl) (by trivial) ?_
      refine AnyE.many [3] (by cbv <;> rfl) (by rfl) ⟨?_, trivial⟩
      refine PickE.callE en60 (keys60 8 _) (by cbv <;> rfl) (by cbv <;> rfl) fun r st' hk => ?_
      obtain ⟨rfl, rfl⟩ := hk
      refine ⟨(by repeat (first | exact trivial | refine And.intro (by first | exact lv_of hO (by cbv <;> rfl) (by trivial) | (cbv <;> rfl)) ?_)), ?_⟩
      refine AnyE.run tok hO (by rfl) (by cbv <;> rfl) (by trivial) ?_
      refine AnyE.callS en59 (k63 rfl rfl) (by cbv <;> rfl) (by cbv <;> rfl) ?_
      refine AnyE.run tok hO (by rfl) (by cbv <;> rfl) (by trivial) ?_
      refine AnyE.effK tok hO (by cbv <;> rfl) (by cbv <;> rfl) (by trivial) ?_ ?_
      · exact (by repeat (first | exact trivial | refine And.intro (by first | exact lv_of hO (by cbv <;> rfl) (by trivial) | (cbv <;> rfl)) ?_))
      refine AnyE.run tok hO (by rfl) (by cbv <;> rfl) (by trivial) ?_
      refine AnyE.appOne (g := rngC lo2 hi2) (len := i + 1) tok (by cbv <;> rfl) (by cbv <;> rfl) (by rfl) (by rfl) hG2 (by kernel_rfl) (by rfl) (by rfl) (by omega) fun H2 hH2 => ?_
      refine AnyE.run tok hO (by rfl) (by cbv <;> rfl) (by trivial) ?_
      refine AnyE.eff tok hO (by cbv <;> rfl) (by cbv <;> rfl) (by trivial) ?_
      refine AnyE.done (by rfl) ?_
      refine SW.run tok hO (by cbv <;> rfl) (by trivial) ?_
      refine ⟨i + 1 + 1, by omega, by omega, tabR [(5, 11), (6, 14), (7, 17)], ?_⟩
      refine WeakR.tabG F567 F567_inj rfl rfl (by simp) (by rfl) (by show 5 ≤ 8; omega) (by rfl) ⟨RenV.ptr (by omega), RenV.ptr (by omega), RenV.ptr (by omega), RenV.closed Below.lit, RenV.inc hO (by omega), trivial⟩
        ⟨⟨by omega, _, rfl, .cells (.cons (RenV.sl (by omega)) (.cons (RenV.sl (by omega)) (.cons (RenV.sl (by omega)) (.cons (RenV.closed Below.lit) (.cons (RenV.closed Below.lit) (.cons (RenV.closed Below.lit) (.cons (RenV.closed Below.lit) (.cons (RenV.closed Below.lit) (.cons (RenV.closed Below.lit) (.cons (RenV.closed Below.lit) (.cons (RenV.closed Below.lit) .nil))))))))))), rfl⟩,
          ⟨by omega, _, rfl, .cells (.cons (RenV.closed Below.lit) (.cons (RenV.closed Below.lit) (.cons (RenV.closed (womsV_below d)) (.cons (RenV.closed (lotsV_below d)) (.cons (RenV.closed (cntsV_below d)) (.cons (RenV.closed hY) (.cons (RenV.mp (by omega)) .nil))))))), rfl⟩,
          ⟨by omega, _, rfl, .cells (RenVs.closed (AllB.ok ⟨Below.lit, Below.lit, Below.lit, Below.lit, Below.lit, Below.lit, Below.lit, Below.lit, Below.lit, Below.lit, Below.lit, trivial⟩)), rfl⟩,
          ⟨by omega, _, rfl, .cells (RenVs.of_eq (by rw [hH0, ← ha0, ← hb0]; rfl) (flatG_below (rngC_below lo0 hi0) (i + 1 + 1))), rfl⟩, ⟨by omega, _, rfl, .cells (RenVs.of_eq (by rw [hH1, ← ha1, ← hb1]; rfl) (flatG_below (rngC_below lo1 hi1) (i + 1 + 1))), rfl⟩, ⟨by omega, _, rfl, .cells (RenVs.of_eq (by rw [hH2, ← ha2, ← hb2]; rfl) (flatG_below (rngC_below lo2 hi2) (i + 1 + 1))), rfl⟩, trivial⟩
    · have hge : d.nw = i + 1 := by
        have : (d.nw : Int) ≤ ((i + 1 : Nat) : Int) := by subst hO; simpa [std] using h
        omega
      refine SW.exit ?_
      refine SW.seq (SW.runN tok hO 2 (by cbv <;> rfl) (by trivial) ?_)
      refine OpsW.callS en64 (values64 L G _) (by cbv <;> rfl) fun v1 st' hk => ?_
      obtain ⟨rfl, rfl⟩ := hk
      refine OpsW.run tok hO (by cbv <;> rfl) (by trivial) ?_
      refine SW.seq (SW.runN tok hO 1 (by cbv <;> rfl) (by trivial) ?_)
      refine OpsW.callS en65 (h66 rfl) (by cbv <;> rfl) fun v1 st' hk => ?_
      obtain ⟨rfl, rfl⟩ := hk
      refine OpsW.run tok hO (by cbv <;> rfl) (by trivial) ?_
      refine SW.seq (SW.runN tok hO 1 (by cbv <;> rfl) (by trivial) ?_)
      refine OpsW.callS en65 (h67 rfl) (by cbv <;> rfl) fun v1 st' hk => ?_
      obtain ⟨rfl, rfl⟩ := hk
      refine OpsW.run tok hO (by cbv <;> rfl) (by trivial) ?_
      refine SW.seq (SW.runN tok hO 1 (by cbv <;> rfl) (by trivial) ?_)
      refine OpsW.callS en65 (h68 rfl) (by cbv <;> rfl) fun v1 st' hk => ?_
      obtain ⟨rfl, rfl⟩ := hk
      refine OpsW.run tok hO (by cbv <;> rfl) (by trivial) ?_
      refine SW.seq (SW.runN tok hO 1 (by cbv <;> rfl) (by trivial) ?_)
      refine OpsW.callS en65 (h69 rfl) (by cbv <;> rfl) fun v1 st' hk => ?_
      obtain ⟨rfl, rfl⟩ := hk
      refine OpsW.run tok hO (by cbv <;> rfl) (by trivial) ?_
      refine SW.seqRun tok hO (by cbv <;> rfl) (by trivial) ?_
      rw [hge]
      refine SW.ret ⟨_, _, rfl, rfl, ?_⟩
      refine Eqv.tup (.cons (Eqv.agg ?_) (.cons (Eqv.of rfl) .nil))
      refine .cons ?_ (.cons ?_ (.cons ?_ (.cons (Eqv.of rfl) (.cons (Eqv.of rfl) (.cons (Eqv.of rfl) (.cons (Eqv.of rfl) (.cons (Eqv.of rfl) (.cons (Eqv.of rfl) (.cons (Eqv.of rfl) (.cons (Eqv.of rfl) .nil))))))))))
      · show Eqv (frz _ _ 3 (.sl 5 0 (i + 1) 2 false)) _
        rw [frz_slE (fm := none) (G := G0) rfl rfl (by rw [hG0, flatG_length]; omega)]
        exact Eqv.isl rfl fun j k hj hk => Eqv.of (by rw [hG0]; exact frz_flat hj hk (by unfold rngC; split <;> rfl))
      · show Eqv (frz _ _ 3 (.sl 6 0 (i + 1) 2 false)) _
        rw [frz_slE (fm := none) (G := G1) rfl rfl (by rw [hG1, flatG_length]; omega)]
        exact Eqv.isl rfl fun j k hj hk => Eqv.of (by rw [hG1]; exact frz_flat hj hk (by unfold rngC; split <;> rfl))
      · show Eqv (frz _ _ 3 (.sl 7 0 (i + 1) 2 false)) _
        rw [frz_slE (fm := none) (G := G2) rfl rfl (by rw [hG2, flatG_length]; omega)]
        exact Eqv.isl rfl fun j k hj hk => Eqv.of (by rw [hG2]; exact frz_flat hj hk (by unfold rngC; split <;> rfl))
end Go.Fz
namespace Go.Fz
open Go.Proofs
set_option maxRecDepth 100000
theorem stemN_bound {d : DayD} {t : TruD} (hst : ∀ i, i < d.nl → 0 ≤ t.st i ∧ t.st i ≤ 5000) (w : Int) : ∀ j, j ≤ d.nl → j ≤ 4 → 0 ≤ stemN d t.st w j ∧ stemN d t.st w j ≤ 5000 * j
  | 0, _, _ => by simp [stemN]
  | j + 1, h, h4 => by
    obtain ⟨h1, h2⟩ := stemN_bound hst w j (by omega) (by omega)
    have := hst j (by omega)
    show 0 ≤ (if d.lw j = w then add64 (stemN d t.st w j) (t.st j) else stemN d t.st w j) ∧ (if d.lw j = w then add64 (stemN d t.st w j) (t.st j) else stemN d t.st w j) ≤ 5000 * ((j + 1 : Nat) : Int)
    split
    · rw [add64_in _ _ (by omega) (by omega)]; omega
    · omega
end Go.Fz
namespace Go.Fz
open Go.Proofs
set_option maxRecDepth 100000
end Go.Fz
namespace Go.Fz
open Go.Proofs
set_option maxRecDepth 100000
def mnF (V : Nat → Int) (L : Nat) : Int := leN (V 0) (fun i => V (i + 1)) (L - 1)
def mxF (V : Nat → Int) (L : Nat) : Int := grN (V 0) (fun i => V (i + 1)) (L - 1)
theorem mnF_le {V : Nat → Int} {L i : Nat} (h : i < L) : mnF V L ≤ V i := by
  obtain ⟨⟨h1, h2⟩, _⟩ := leN_le (V 0) (fun i => V (i + 1)) (L - 1)
  cases i with
  | zero => exact h1
  | succ i => exact h2 i (by omega)
theorem mnF_mem {V : Nat → Int} {L : Nat} (h : 0 < L) : ∃ i, i < L ∧ V i = mnF V L := by
  obtain ⟨_, h3⟩ := leN_le (V 0) (fun i => V (i + 1)) (L - 1)
  rcases h3 with h3 | ⟨i, hi, h3⟩
  · exact ⟨0, h, h3.symm⟩
  · exact ⟨i + 1, by omega, h3.symm⟩
theorem mxF_ge {V : Nat → Int} {L i : Nat} (h : i < L) : V i ≤ mxF V L := by
  obtain ⟨⟨h1, h2⟩, _⟩ := grN_ge (V 0) (fun i => V (i + 1)) (L - 1)
  cases i with
  | zero => exact h1
  | succ i => exact h2 i (by omega)
theorem mxF_mem {V : Nat → Int} {L : Nat} (h : 0 < L) : ∃ i, i < L ∧ V i = mxF V L := by
  obtain ⟨_, h3⟩ := grN_ge (V 0) (fun i => V (i + 1)) (L - 1)
  rcases h3 with h3 | ⟨i, hi, h3⟩
  · exact ⟨0, h, h3.symm⟩
  · exact ⟨i + 1, by omega, h3.symm⟩
theorem ends_g (g : FuncId) (val : PK → Int) (K : Nat → PK) (L : Nat) (h0 : 0 < L) (hL : L < 100000) (V : Nat → Int) (hV : ∀ j, j < L → val (K j) = V j) (hof : ∀ j, j < L → Pure Try.prog g [pkV (K j)] (iV (val (K j)))) {st : St} {mid bid : Nat} {fm : Option Nat} {ro : Bool}
    (hm : st.h.get mid = some (.map (mapE pkV (pkP K L).1) (pkP K L).2)) (hc : st.h.get bid = some (.cells fm ro [.mp mid])) :
    CallW Try.prog 59 [.fn (.func 99) [] [.ptr bid 0], .fn (.func g) [] []] st (fun v st' => v = rangeV (mnF V L) (mxF V L) ∧ st' = st) := by
  have hmem : ∀ p ∈ (pkP K L).1, ∃ j, j < L ∧ K j = p.1 := fun p hp => (pkP_mem K p.1 L).1 (List.mem_map.2 ⟨p, hp, rfl⟩)
  have hcov : ∀ j, j < L → ∃ p ∈ (pkP K L).1, p.1 = K j := fun j hj => by
    obtain ⟨p, hp, e⟩ := List.mem_map.1 ((pkP_mem K (K j) L).2 ⟨j, hj, rfl⟩)
    exact ⟨p, hp, e⟩
  have hex : ∀ z, (∃ j, j < L ∧ V j = z) → ∃ p ∈ (pkP K L).1, val p.1 = z := fun z ⟨j, hj, e⟩ => by
    obtain ⟨p, hp, e2⟩ := hcov j hj
    exact ⟨p, hp, by rw [e2, hV j hj, e]⟩
  refine ends59 g val (pkP K L).1 (pkP K L).2 (pkP_born K L) (by have := pkP_len K L; omega) (fun p hp => ?_) (mnF V L) (mxF V L) (hex _ (mnF_mem h0)) (fun p hp => ?_) (hex _ (mxF_mem h0)) (fun p hp => ?_) hm hc
  · obtain ⟨j, hj, e⟩ := hmem p hp
    rw [← e]; exact hof j hj
  · obtain ⟨j, hj, e⟩ := hmem p hp
    rw [← e, hV j hj]; exact mnF_le hj
  · obtain ⟨j, hj, e⟩ := hmem p hp
    rw [← e, hV j hj]; exact mxF_ge hj
theorem woman_ok (d : DayD) (w : Nat) (hw : w < d.nw) (hnl : d.nl < 1000) (L : Nat) (h0 : 0 < L) (hL : L < 100000) (A B C D : Nat → Nat → Int) (a b c e : Nat → Int) (hin : ∀ i, i < L → inK (A i w, stemN d (B i) w d.nl) = true) (hpos : ∀ i, i < L → A i w ≠ 0)
    (hC : ∀ i, i < L → C i w = quo64 (stemN d (B i) w d.nl) (A i w)) (hD : ∀ i, i < L → D i w = (stemN d (B i) w d.nl).tmod (A i w)) :
    ∃ M cc, WomanE d (.isl L 8 false (outX d.nw d.nl A B C D a b c e)) (fun w => mnF (fun i => A i w) L) (fun w => mxF (fun i => A i w) L) (fun w => mnF (fun i => C i w) L) (fun w => mxF (fun i => C i w) L) (fun w => mnF (fun i => D i w) L) (fun w => mxF (fun i => D i w) L) w M cc := by
  obtain ⟨K, hK⟩ : ∃ K : Nat → PK, K = fun i => toPK (A i w, stemN d (B i) w d.nl) := ⟨_, rfl⟩
  have hk : ∀ i, i < L → (K i).1 = (A i w, stemN d (B i) w d.nl) := fun i hi => by rw [hK]; exact toPK_val (hin i hi)
  have hpv : ∀ i, i < L → pkV (K i) = pileV (A i w) (stemN d (B i) w d.nl) := fun i hi => by unfold pkV; rw [hk i hi]; rfl
  refine ⟨mapE pkV (pkP K L).1, (pkP K L).2, ⟨fun x hx => ?_, fun st => ?_, fun hm hc => ?_, fun hm hc => ?_, fun hm hc => ?_⟩⟩
  · obtain ⟨p, _, rfl⟩ := List.mem_map.1 hx
    exact ⟨pkV_below _, Below.lit⟩
  · refine CallW.mpArg (fun x => [.agg [iV d.hand, iV d.flat, womsV d, lotsV d, cntsV d, .isl L 8 false (outX d.nw d.nl A B C D a b c e), x], iV w]) (fun φ us h => ?_) (fun mb => (had_ok d w hw hnl L hL A B C D a b c e mb K hk).call st)
    cases h with
    | cons h1 h2 =>
      obtain ⟨vs, rfl, k⟩ := h1.agg_inv
      cases k with
      | cons k0 k =>
        cases k with
        | cons k1 k =>
          cases k with
          | cons k2 k =>
            cases k with
            | cons k3 k =>
              cases k with
              | cons k4 k =>
                cases k with
                | cons k5 k =>
                  cases k with
                  | cons k6 k =>
                    cases k
                    obtain ⟨rfl, _⟩ := k6.mp_inv
                    exact ⟨_, .cons (.agg (.cons k0 (.cons k1 (.cons k2 (.cons k3 (.cons k4 (.cons k5 (.cons (.lit _) .nil)))))))) h2⟩
  · exact ends_g 61 (fun p => p.1.1) K L h0 hL _ (fun j hj => by rw [hk j hj]) (fun j hj => by rw [hpv j hj, hk j hj]; exact number_ok _ _) hm hc
  · exact ends_g 62 (fun p => quo64 p.1.2 p.1.1) K L h0 hL _ (fun j hj => by rw [hk j hj]; exact (hC j hj).symm) (fun j hj => by rw [hpv j hj, hk j hj]; exact bunches_ok _ _ (hpos j hj)) hm hc
  · exact ends_g 63 (fun p => p.1.2.tmod p.1.1) K L h0 hL _ (fun j hj => by rw [hk j hj]; exact (hD j hj).symm) (fun j hj => by rw [hpv j hj, hk j hj]; exact left_ok _ _ (hpos j hj)) hm hc
def DayD.tr (d : DayD) (i : Nat) : TruD := truF d (nthF d.seen.outs i)
def DayD.oN (d : DayD) : Nat := d.seen.outs.length
def DayD.bndV (d : DayD) : AV := .agg (bndC d.nw (fun w => mnF (fun i => (d.tr i).fe w) d.oN) (fun w => mxF (fun i => (d.tr i).fe w) d.oN) (fun w => mnF (fun i => d.bun (d.tr i) w) d.oN) (fun w => mxF (fun i => d.bun (d.tr i) w) d.oN) (fun w => mnF (fun i => d.lef (d.tr i) w) d.oN) (fun w => mxF (fun i => d.lef (d.tr i) w) d.oN)
  (mnF (fun i => (d.tally (d.tr i)).hands) d.oN) (mxF (fun i => (d.tally (d.tr i)).hands) d.oN) (mnF (fun i => (d.tally (d.tr i)).loose) d.oN) (mxF (fun i => (d.tally (d.tr i)).loose) d.oN) (mnF (fun i => (d.tally (d.tr i)).flats) d.oN) (mxF (fun i => (d.tally (d.tr i)).flats) d.oN) (mnF (fun i => (d.tally (d.tr i)).spare) d.oN) (mxF (fun i => (d.tally (d.tr i)).spare) d.oN))
theorem nth_mem {l : List (Nat → Int)} {i : Nat} (h : i < l.length) : nthF l i ∈ l := by
  unfold nthF
  rw [List.getD_eq_getElem?_getD, List.getElem?_eq_getElem h]
  exact List.getElem_mem h
theorem tr_fit {d : DayD} {i : Nat} (hi : i < d.oN) : d.fits (d.tr i) = true := by
  obtain ⟨t, h1, h2, _⟩ := (seen_out d _).1 (nth_mem hi)
  unfold DayD.tr
  refine tally_fit fun m hm => ?_
  rw [← h2]
  exact cutF_in h1 m hm
theorem tr_stem {d : DayD} (g : d.Good) {t : TruD} (h : d.fits t = true) (w : Int) : 0 ≤ stemN d t.st w d.nl ∧ stemN d t.st w d.nl ≤ 20000 := by
  have hl := g.nl
  have hf := h
  simp only [DayD.fits, Bool.and_eq_true, decide_eq_true_eq, allN] at hf
  obtain ⟨⟨⟨h1, h2⟩, h3⟩, h4⟩ := hf
  have := stemN_bound (d := d) (t := t) (fun i hi => by
    have h5 := h4 i (by omega)
    have h6 := g.lot i hi
    simp only [inB, Bool.and_eq_true, decide_eq_true_eq] at h5
    omega) w d.nl (Nat.le_refl _) hl
  omega
theorem tr_feel {d : DayD} (g : d.Good) {t : TruD} (h : d.fits t = true) {w : Nat} (hw : w < d.nw) : 1 ≤ t.fe w ∧ t.fe w ≤ 60 := by
  have hf := h
  simp only [DayD.fits, Bool.and_eq_true, decide_eq_true_eq, allN] at hf
  obtain ⟨⟨⟨h1, h2⟩, h3⟩, h4⟩ := hf
  have h5 := h3 w (by omega)
  have h6 := g.wom w hw
  simp only [inB, Bool.and_eq_true, decide_eq_true_eq] at h5
  omega
theorem boundsV_ok (d : DayD) (hs : d.small) (hc : d.check = 0) (hne : d.seen.outs ≠ []) : Pure Try.prog 18 [dayV d] (.tup [d.bndV, iV 0]) := by
  have g := good_of_check hc
  have hlen := foldE_outs d hc
  have hnl := g.nl
  cases ho : d.seen.outs with
  | nil => exact absurd ho hne
  | cons f l =>
    have e2 := open_ok d hs hc f l ho
    have hW : workM d (f :: l) = fun k => .agg [iV d.hand, iV d.flat, womsV d, lotsV d, cntsV d, .isl (l.length + 1) 8 false (outG d (f :: l)), .mp k] := rfl
    rw [hW, outG_X, ← ho] at e2
    have hN : l.length + 1 = d.oN := by show _ = d.seen.outs.length; rw [ho]; rfl
    rw [hN] at e2
    have h0 : 0 < d.oN := by omega
    have hL : d.oN < 100000 := by have : d.oN ≤ 2000 := hlen; omega
    have ht : ∀ g0 (V : Nat → Int), (∀ i, i < d.oN → Pure Try.prog g0 [.agg [intsV d.nw false (fun j => nthF d.seen.outs i j), intsV d.nl false (fun j => nthF d.seen.outs i (d.nw + j)), intsV d.nw false (d.bun (truF d (nthF d.seen.outs i))), intsV d.nw false (d.lef (truF d (nthF d.seen.outs i))), iV (d.tally (truF d (nthF d.seen.outs i))).hands, iV (d.tally (truF d (nthF d.seen.outs i))).loose, iV (d.tally (truF d (nthF d.seen.outs i))).flats, iV (d.tally (truF d (nthF d.seen.outs i))).spare]] (iV (V i))) →
        TotalE (.isl d.oN 8 false (outX d.nw d.nl (fun i => nthF d.seen.outs i) (fun i j => nthF d.seen.outs i (d.nw + j)) (fun i => d.bun (truF d (nthF d.seen.outs i))) (fun i => d.lef (truF d (nthF d.seen.outs i)))
          (fun i => (d.tally (truF d (nthF d.seen.outs i))).hands) (fun i => (d.tally (truF d (nthF d.seen.outs i))).loose) (fun i => (d.tally (truF d (nthF d.seen.outs i))).flats) (fun i => (d.tally (truF d (nthF d.seen.outs i))).spare))) g0 (mnF V d.oN) (mxF V d.oN) := fun g0 V hof => fun {st bid fm ro} hg =>
      ends65 g0 d.nw d.nl _ _ _ _ _ _ _ _ d.oN h0 hL V hof (mnF V d.oN) (mxF V d.oN) (mnF_mem h0) (fun i hi => mnF_le hi) (mxF_mem h0) (fun i hi => mxF_ge hi) hg
    refine bounds_core d g.pos g.nw d.oN _ (outX_below _ _ _ _ _ _ _ _ _ _ _) _ _ _ _ _ _ _ _ _ _ _ _ _ _ _ _ e2 (fun w hw => ?_) (ht 66 _ fun i hi => of66_ok _ _ _ _ _ _ _ _ _ _) (ht 67 _ fun i hi => of67_ok _ _ _ _ _ _ _ _ _ _) (ht 68 _ fun i hi => of68_ok _ _ _ _ _ _ _ _ _ _) (ht 69 _ fun i hi => of69_ok _ _ _ _ _ _ _ _ _ _)
    refine woman_ok d w hw (by omega) d.oN h0 hL _ _ _ _ _ _ _ _ (fun i hi => ?_) (fun i hi => ?_) (fun i hi => rfl) (fun i hi => rfl)
    · have h1 := tr_feel g (tr_fit hi) hw
      have h2 := tr_stem g (tr_fit hi) w
      have h1' : 1 ≤ nthF d.seen.outs i w ∧ nthF d.seen.outs i w ≤ 60 := h1
      have h2' : 0 ≤ stemN d (fun j => nthF d.seen.outs i (d.nw + j)) w d.nl ∧ stemN d (fun j => nthF d.seen.outs i (d.nw + j)) w d.nl ≤ 20000 := h2
      simp only [inK, Bool.and_eq_true, decide_eq_true_eq]
      omega
    · have h1 : 1 ≤ nthF d.seen.outs i w ∧ nthF d.seen.outs i w ≤ 60 := tr_feel g (tr_fit hi) hw
      omega
set_option maxHeartbeats 8000000 in
theorem bounds_err (d : DayD) (e : Int) (he : e ≠ 0) (h : Pure Try.prog 57 [dayV d, .lit (.bool true)] (.tup [.agg stZ, iV e])) : Pure Try.prog 18 [dayV d] (.tup [.agg bnd0, iV e]) := by
  obtain ⟨O, hO⟩ : ∃ O : Ar, O = std := ⟨_, rfl⟩
  refine pure_of_body tok 3 Try.func18 en18 rfl ⟨dayV_below d, trivial⟩ (Below.tup (AllB.ok ⟨Below.agg (AllB.ok ⟨Below.lit, Below.lit, Below.lit, Below.lit, Below.lit, Below.lit, Below.lit, Below.lit, Below.lit, Below.lit, Below.lit, trivial⟩), Below.lit, trivial⟩)) ?_
  refine SW.seqRun tok hO (by cbv <;> rfl) (by trivial) ?_
  refine SW.seq (SW.runN tok hO 1 (by cbv <;> rfl) (by trivial) ?_)
  refine OpsW.callP h (by cbv <;> rfl) ?_
  refine OpsW.run tok hO (by cbv <;> rfl) (by trivial) ?_
  refine SW.seq ?_
  refine SW.seqRun tok hO (by cbv <;> rfl) (by trivial) ?_
  refine SW.condS (by cbv <;> rfl) (fun h1 => ?_) (fun h1 => ?_)
  · refine SW.seqRun tok hO (by cbv <;> rfl) (by trivial) ?_
    exact SW.ret ⟨_, _, rfl, rfl, Eqv.of rfl⟩
  · exfalso
    subst hO; simp [std] at h1; exact he h1
def DayD.bndR (d : DayD) : AV := if d.seen.outs = [] then .agg bnd0 else d.bndV
def DayD.bndE (d : DayD) : Int := if d.seen.outs = [] then 11 else 0
theorem boundsP_ok (d : DayD) (hs : d.small) (hc : d.check = 0) : Pure Try.prog 18 [dayV d] (.tup [d.bndR, iV d.bndE]) := by
  unfold DayD.bndR DayD.bndE
  by_cases ho : d.seen.outs = []
  · rw [if_pos ho, if_pos ho]
    exact bounds_err d 11 (by decide) (open_none d hs hc ho)
  · rw [if_neg ho, if_neg ho]
    exact boundsV_ok d hs hc ho
end Go.Fz
namespace Go.Fz
open Go.Proofs
set_option maxRecDepth 100000
end Go.Fz
namespace Go.Fz
open Go.Proofs
set_option maxRecDepth 100000
end Go.Fz
namespace Go.Fz
open Go.Proofs
set_option maxRecDepth 100000
theorem risE_lt {many : Nat} : ∀ (m : Nat) (p : List Nat) (s : Nat) (l : List Nat), l ∈ risE many m p s → (∀ x ∈ p, x < many) → ∀ x ∈ l, x < many
  | 0, p, s, l, h, hp => by rw [List.mem_singleton.1 h]; exact hp
  | m + 1, p, s, l, h, hp => by
    obtain ⟨c, hc, hl⟩ := List.mem_flatMap.1 h
    have hc' := List.mem_range.1 hc
    refine risE_lt m _ _ l hl fun x hx => ?_
    rcases List.mem_append.1 hx with hx | hx
    · exact hp x hx
    · rw [List.mem_singleton.1 hx]; omega
theorem risL_lt {many : Nat} {l : List Nat} (h : l ∈ risL many) : ∀ x ∈ l, x < many := by
  obtain ⟨m, _, hl⟩ := List.mem_flatMap.1 h
  exact risE_lt m [] 0 l hl fun x hx => by cases hx
def DayD.setQ (d : DayD) (outs : List (Nat → Int)) (l : List Nat) : Bool := allN outs.length fun i => allN i fun j =>
  !(allN 4 fun m => decide (fvF (nthF outs i) (fun k => ((l.getD k 0 : Nat) : Int)) l.length m = fvF (nthF outs j) (fun k => ((l.getD k 0 : Nat) : Int)) l.length m)) || decide ((d.tally (truF d (nthF outs j))).flats = (d.tally (truF d (nthF outs i))).flats)
theorem setQ_iff (d : DayD) (outs : List (Nat → Int)) (l : List Nat) : d.setQ outs l = true ↔ ∀ i, i < outs.length → ∀ j, j < i → (∀ m, m < 4 → fvF (nthF outs i) (fun k => ((l.getD k 0 : Nat) : Int)) l.length m = fvF (nthF outs j) (fun k => ((l.getD k 0 : Nat) : Int)) l.length m) →
    (d.tally (truF d (nthF outs j))).flats = (d.tally (truF d (nthF outs i))).flats := by
  unfold DayD.setQ
  simp only [allN, decide_eq_true_eq, Bool.or_eq_true, Bool.not_eq_true', decide_eq_false_iff_not]
  constructor
  · intro h i hi j hj hm
    rcases h i hi j hj with h1 | h1
    · exact absurd hm h1
    · exact h1
  · intro h i hi j hj
    by_cases hm : ∀ m, m < 4 → fvF (nthF outs i) (fun k => ((l.getD k 0 : Nat) : Int)) l.length m = fvF (nthF outs j) (fun k => ((l.getD k 0 : Nat) : Int)) l.length m
    · exact .inr (h i hi j hj hm)
    · exact .inl hm
theorem outs_in {d : DayD} (hc : d.check = 0) {f : Nat → Int} (hf : f ∈ d.seen.outs) (j : Nat) : 0 ≤ f j ∧ f j ≤ 1000000 := by
  obtain ⟨t, h1, h2, _⟩ := (seen_out d f).1 hf
  have g := unk_in (good_of_check hc)
  rw [← h2]
  unfold cutF
  split
  · rename_i h
    have := h1 j h
    have := g j h
    omega
  · omega
theorem fewestP_ok (d : DayD) (hs : d.small) (hc : d.check = 0) (hne : d.seen.outs ≠ []) : Pure Try.prog 27 [dayV d] (.tup [fewV (d.setQ d.seen.outs) d.nw, iV (fewE (d.setQ d.seen.outs) d.nw)]) := by
  have g := good_of_check hc
  have hnw := g.nw
  have hin : ∀ f ∈ d.seen.outs, ∀ j, 0 ≤ f j ∧ f j ≤ 1000000 := fun f hf j => outs_in hc hf j
  have hlen := foldE_outs d hc
  cases ho : d.seen.outs with
  | nil => exact absurd ho hne
  | cons f0 l0 =>
    have e2 := open_ok d hs hc f0 l0 ho
    rw [ho] at hin hlen
    obtain ⟨outs, houts⟩ : ∃ o, f0 :: l0 = o := ⟨_, rfl⟩
    have hl : l0.length + 1 = outs.length := by rw [← houts]; rfl
    have hA : ∀ i j, 0 ≤ nthF outs i j ∧ nthF outs i j ≤ 1000000 := fun i j => by
      unfold nthF
      by_cases hi : i < outs.length
      · rw [List.getD_eq_getElem?_getD, List.getElem?_eq_getElem hi, Option.getD_some]
        exact hin _ (by rw [houts]; exact List.getElem_mem hi) j
      · rw [List.getD_eq_getElem?_getD, List.getElem?_eq_none (by omega)]
        show (0 : Int) ≤ 0 ∧ (0 : Int) ≤ 1000000
        omega
    rw [houts] at hlen
    rw [houts]
    have hX : outsI d (f0 :: l0) = .isl outs.length 8 false (outG d outs) := by
      show AV.isl (l0.length + 1) 8 false (outG d (f0 :: l0)) = _
      rw [hl, houts]
    refine fewest_core d outs.length (outG d outs) (mapE mkV d.seen.E) d.seen.cl (d.setQ outs) (by rw [← hX]; exact outsI_below d _) (mapE_closed _) (by omega) (fun l hlm => ?_) ?_
    · rw [outG_X]
      have hll := risL_len hlm
      have hlt := risL_lt hlm
      refine settles_ok d.nw d.nl _ _ _ _ _ _ _ _ d.hand d.flat d.nw d.nl d.nc (womC d) (lotC d) (cntC d) (womsV_below d) (lotsV_below d) (cntsV_below d) outs.length l.length (fun k => ((l.getD k 0 : Nat) : Int)) (by omega) (by omega) (by omega) (fun k hk => ?_) hA (d.setQ outs l) (fun h => ?_) (fun i j hi hj hm hne' => ?_)
      · have : l.getD k 0 < d.nw := hlt _ (by rw [List.getD_eq_getElem?_getD, List.getElem?_eq_getElem hk]; exact List.getElem_mem hk)
        show (0 : Int) ≤ ((l.getD k 0 : Nat) : Int) ∧ ((l.getD k 0 : Nat) : Int) < (d.nw : Int)
        omega
      · exact (setQ_iff d outs l).2 fun i hi j hj hm => h i j hi hj hm
      · rw [← Bool.not_eq_true]; exact fun h => hne' ((setQ_iff d outs l).1 h i hi j hj hm)
    · have : (fun k => AV.tup [workM d (f0 :: l0) k, iV 0]) = fun k => .tup [.agg [iV d.hand, iV d.flat, womsV d, lotsV d, cntsV d, .isl outs.length 8 false (outG d outs), .mp k], iV 0] := by
        funext k
        unfold workM workC
        rw [hX]
      rw [← this]
      exact e2
end Go.Fz
namespace Go.Fz
open Go.Proofs
set_option maxRecDepth 100000
def leaveV (E : List (Mk × Nat)) (many : Nat) : AV := match (risL many).find? (leaveQ E) with
  | some l => lsV l
  | none => nl3
theorem leaveV_below (E : List (Mk × Nat)) (many : Nat) : Below 0 (leaveV E many) := by
  unfold leaveV; split
  · exact lsV_below _
  · exact Below.lit
set_option maxHeartbeats 16000000 in
theorem leave_core (d : DayD) (E : List (Mk × Nat)) (cl : Nat) (l : List (Nat → Int)) (hb : Born E cl) (hnc : d.nc < 100)
    (e1 : Pure Try.prog 40 [dayV d] (iV 0)) (e2 : Fresh Try.prog 76 [dayV d] (workM d l) (mapE mkV E) cl) :
    Pure Try.prog 31 [dayV d] (.tup [leaveV E d.nc, iV 0]) := by
  obtain ⟨O, hO⟩ : ∃ O : Ar, O = std := ⟨_, rfl⟩
  refine pure_of_body tok 3 Try.func31 en31 rfl ⟨dayV_below d, trivial⟩ (Below.tup (AllB.ok ⟨leaveV_below _ _, Below.lit, trivial⟩)) ?_
  have hWW : workM d l = fun k => .agg [iV d.hand, iV d.flat, womsV d, lotsV d, cntsV d, outsI d l, .mp k] := rfl
  rw [hWW] at e2
  have hXb := outsI_below d l
  have hXO : outsI d l = nl3 ∨ ∃ L G, outsI d l = .isl L 8 false G := by
    cases l with
    | nil => exact .inl rfl
    | cons f l => exact .inr ⟨_, _, rfl⟩
  generalize outsI d l = XO at e2 hXO hXb
  have hris := rising101 (K := leK d XO E cl) (stop := leS d XO E cl) (ok := fun l => l.length < 1000) (mc := 4) (y := 6) (many := d.nc) (by omega) hnc (fun s h n hk => by
      obtain ⟨rfl, hn, _⟩ := hk
      exact ⟨hn, fun x hx => by obtain ⟨k1, k2, _⟩ := leH_mem _ _ _ hx; exact ⟨by omega, k2⟩, none, false, rfl⟩)
    (fun s l h n hk => by
      obtain ⟨rfl, hn, _⟩ := hk
      exact ⟨hn, fun x hx => by have := (leH_mem _ _ _ hx).1; omega⟩)
    (fun s h n n' hk hle => by
      obtain ⟨rfl, hn, hs⟩ := hk
      exact ⟨rfl, by omega, hs⟩) (fun l hl => by have := risL_len hl; show l.length < 1000; omega) (le_step d XO E cl hXb hb) (leH d XO (mapE mkV E) cl leR nl3) 7 (by omega) ⟨rfl, by omega, fun _ h => nomatch h⟩
  have hfinN : (∀ l ∈ risL d.nc, leaveQ E l = false) → leaveV E d.nc = nl3 := fun h => by
    unfold leaveV
    rw [List.find?_eq_none.2 fun l hl => by rw [h l hl]; simp]
  have hfinS : ∀ pre l post, risL d.nc = pre ++ l :: post → (∀ l' ∈ pre, leaveQ E l' = false) → leaveQ E l = true → leaveV E d.nc = lsV l := fun pre l post h1 h2 h3 => by
    unfold leaveV
    rw [h1, List.find?_append, List.find?_eq_none.2 fun l hl => by rw [h2 l hl]; simp, List.find?_cons, h3]
    rfl
  generalize leaveV E d.nc = LV at hfinN hfinS ⊢
  unfold leK leS at hris
  obtain ⟨ME, hME⟩ : ∃ m, mapE mkV E = m := ⟨_, rfl⟩
  rw [hME] at e2 hris
  refine SW.seqRun tok hO (by cbv <;> rfl) (by trivial) ?_
  refine SW.scope ?_
  refine SW.seq ?_
  refine SW.seqRun tok hO (by cbv <;> rfl) (by trivial) ?_
  refine OpsW.callP e1 (by cbv <;> rfl) ?_
  refine OpsW.run tok hO (by cbv <;> rfl) (by trivial) ?_
  refine SW.seqRun tok hO (by cbv <;> rfl) (by trivial) ?_
  refine SW.condS (by cbv <;> rfl) (fun h1 => ?_) (fun h1 => SW.skip ?_)
  · exfalso
    subst hO; simp [std] at h1
  refine SW.seq ((show SW Try.prog none _ (midK 33 [(1, .ptr 0 0), (5, .ptr 2 0)] ⟨[(2, .cells none false [iV d.hand, iV d.flat, womsV d, lotsV d, cntsV d, XO, .mp 1]), (1, .map ME cl), (0, .cells none false (dayC d))], 3⟩) _ _ from ?_).mono fun e f st hm => ?_)
  · rcases hXO with rfl | ⟨L, G, rfl⟩
    · refine SW.runN tok hO 1 (by cbv <;> rfl) (by trivial) ?_
      refine OpsW.callS e2.ent (e2.call _) (by cbv <;> rfl) fun v st' hk => ?_
      obtain ⟨rfl, rfl⟩ := hk
      refine OpsW.run tok hO (by cbv <;> rfl) (by trivial) ?_
      exact ⟨rfl, _, rfl, ⟨rfl, rfl, trivial⟩, rfl⟩
    · refine SW.runN tok hO 1 (by cbv <;> rfl) (by trivial) ?_
      refine OpsW.callS e2.ent (e2.call _) (by cbv <;> rfl) fun v st' hk => ?_
      obtain ⟨rfl, rfl⟩ := hk
      refine OpsW.run tok hO (by cbv <;> rfl) (by trivial) ?_
      exact ⟨rfl, _, rfl, ⟨rfl, rfl, trivial⟩, rfl⟩
  obtain ⟨rfl, g, rfl, ⟨g1, g5, _⟩, rfl⟩ := hm
  simp only at g1 g5
  rw [← updT_self g1, ← updT_self g5]
  clear e2 hXO
  show SW _ _ _ _ _ _
  refine SW.seqRun tok hO (by cbv <;> rfl) (by trivial) ?_
  refine SW.seq (SW.label ?_)
  refine SW.seq ?_
  refine SW.seqRun tok hO (by cbv <;> rfl) (by trivial) ?_
  refine OpsW.callS en74 (rising74 (many := d.nc) _ _) (by cbv <;> rfl) fun v st' hk => ?_
  obtain ⟨rfl, rfl⟩ := hk
  refine OpsW.run tok hO (by cbv <;> rfl) (by trivial) ?_
  refine SW.block ?_
  refine SW.pre (f2 := ⟨⟨33, getT leL⟩, []⟩) (st2 := ⟨[(4, .cells none false [iV (d.nc : Int)]), (3, .cells none false [nl3]), (2, .cells none false [iV d.hand, iV d.flat, womsV d, lotsV d, cntsV d, XO, .mp 1]), (1, .map ME cl), (0, .cells none false (dayC d))], 5⟩) ?_ ?_
  · exact Weak.by rfl rfl (fun _ h => nomatch h) (Nat.le_refl _) (Nat.le_refl _) ⟨⟨rfl, .inl rfl⟩, ⟨rfl, .inl rfl⟩, ⟨rfl, .inl rfl⟩, trivial⟩ ⟨⟨rfl, by show _ < 5; omega, .inl rfl⟩, ⟨rfl, by show _ < 5; omega, .inl rfl⟩, ⟨rfl, by show _ < 5; omega, .inl rfl⟩, ⟨rfl, by show _ < 5; omega, .inl rfl⟩, ⟨rfl, by show _ < 5; omega, .inl rfl⟩, trivial⟩
  refine SW.rangeFunc (gf := 101) (first := []) (caps := [.ptr 4 0]) (by rfl) en101 ?_
  refine CallW.mono (show CallW Try.prog 101 [.yld 6, .ptr 4 0] ⟨leH d XO ME cl leR nl3, 7⟩ _ from hris) fun v st' hk => ?_
  obtain ⟨h, n, rfl, hk | ⟨pre, l, post, hE, hk⟩⟩ := hk
  · obtain ⟨rfl, hn, hseen⟩ := hk
    refine ⟨leR, rfl, (fun h => by simp [leR] at h), ?_⟩
    rw [hfinN hseen]
    show SW _ _ _ _ _ _
    refine SW.seqRun tok hO (by cbv <;> rfl) (by trivial) ?_
    exact SW.ret ⟨_, _, rfl, rfl, Eqv.of rfl⟩
  · obtain ⟨rfl, hn, hpre, hl⟩ := hk
    refine ⟨leRx, rfl, (fun h => by simp [leRx, leR] at h), ?_⟩
    rw [hfinS pre l post hE hpre hl]
    obtain ⟨N, fl, hlv⟩ : ∃ N fl, lsV l = intsV N false fl := ⟨_, _, rfl⟩
    rw [hlv]
    refine SW.exit ?_
    show SW _ _ _ _ _ _
    refine SW.seqRun tok hO (by cbv <;> rfl) (by trivial) ?_
    exact SW.ret ⟨_, _, rfl, rfl, Eqv.of rfl⟩
end Go.Fz
namespace Go.Fz
open Go.Proofs
set_option maxRecDepth 100000
set_option maxHeartbeats 8000000 in
theorem fewest_err (d : DayD) (e : Int) (he : e ≠ 0) (h : Pure Try.prog 57 [dayV d, .lit (.bool true)] (.tup [.agg stZ, iV e])) : Pure Try.prog 27 [dayV d] (.tup [nl3, iV e]) := by
  obtain ⟨O, hO⟩ : ∃ O : Ar, O = std := ⟨_, rfl⟩
  refine pure_of_body tok 3 Try.func27 en27 rfl ⟨dayV_below d, trivial⟩ (Below.tup (AllB.ok ⟨Below.lit, Below.lit, trivial⟩)) ?_
  refine SW.seqRun tok hO (by cbv <;> rfl) (by trivial) ?_
  refine SW.seq (SW.runN tok hO 1 (by cbv <;> rfl) (by trivial) ?_)
  refine OpsW.callP h (by cbv <;> rfl) ?_
  refine OpsW.run tok hO (by cbv <;> rfl) (by trivial) ?_
  refine SW.seq ?_
  refine SW.seqRun tok hO (by cbv <;> rfl) (by trivial) ?_
  refine SW.condS (by cbv <;> rfl) (fun h1 => ?_) (fun h1 => ?_)
  · refine SW.seqRun tok hO (by cbv <;> rfl) (by trivial) ?_
    exact SW.ret ⟨_, _, rfl, rfl, Eqv.of rfl⟩
  · exfalso
    have : e = 0 := by subst hO; simpa [std] using h1
    exact he this
def DayD.fewL (d : DayD) : AV := if d.seen.outs = [] then nl3 else fewV (d.setQ d.seen.outs) d.nw
def DayD.fewN (d : DayD) : Int := if d.seen.outs = [] then 11 else fewE (d.setQ d.seen.outs) d.nw
theorem fewestA_ok (d : DayD) (hs : d.small) (hc : d.check = 0) : Pure Try.prog 27 [dayV d] (.tup [d.fewL, iV d.fewN]) := by
  unfold DayD.fewL DayD.fewN
  by_cases ho : d.seen.outs = []
  · rw [if_pos ho, if_pos ho]
    exact fewest_err d 11 (by decide) (open_none d hs hc ho)
  · rw [if_neg ho, if_neg ho]
    exact fewestP_ok d hs hc ho
theorem leaveA_ok (d : DayD) (hs : d.small) (hc : d.check = 0) : Pure Try.prog 31 [dayV d] (.tup [leaveV d.seen.E d.nc, iV 0]) := by
  have e1 := checkDay_ok d hs
  rw [hc] at e1
  have hnc := (good_of_check hc).nc
  exact leave_core d d.seen.E d.seen.cl d.seen.outs (seen_born d) (by omega) e1 (start_ok d hc)
end Go.Fz
