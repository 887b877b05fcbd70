/- Own work of the verifier of watercress: FzA16. -/
import Derived.Test.YtpaifaemkoblcaaNa24
set_option linter.unusedVariables false
set_option linter.unusedSimpArgs false
set_option linter.unusedVariables false
namespace Go.Fz
open Go.Proofs
set_option maxRecDepth 100000
def vlL (val : WK → Int) (x : List (WK × Nat)) (i : Nat) : Int := (x.map fun p => val p.1).getD i 0
theorem vlL_snoc (val : WK → Int) (x : List (WK × Nat)) (p : WK × Nat) : flatG 1 (intC (vlL val x)) x.length ++ [iV (val p.1)] = flatG 1 (intC (vlL val (x ++ [p]))) (x.length + 1) := by
  have h1 : flatG 1 (intC (vlL val (x ++ [p]))) x.length = flatG 1 (intC (vlL val x)) x.length := flatG_congr fun i k hi => by
    show iV (vlL val (x ++ [p]) i) = iV (vlL val x i)
    unfold vlL
    rw [List.map_append, List.getD_eq_getElem?_getD, List.getElem?_append_left (by simpa using hi), ← List.getD_eq_getElem?_getD]
  have h2 : vlL val (x ++ [p]) x.length = val p.1 := by unfold vlL; simp
  show _ = flatG 1 (intC (vlL val (x ++ [p]))) x.length ++ [iV (vlL val (x ++ [p]) x.length)]
  rw [h1, h2]
set_option maxHeartbeats 16000000 in
theorem bounds82_core (g : FuncId) (val : WK → Int) (E : List (WK × Nat)) (cl : Nat) (hb : BornG E cl) (hE : E.length < 1000000) (hof : ∀ p ∈ E, Pure Try.prog g [flV p.1] (iV (val p.1))) (hent : Enters Try.prog g) (lo hi : Int)
    (hlo : ∃ p ∈ E, val p.1 = lo) (hlo' : ∀ p ∈ E, lo ≤ val p.1) (hhi : ∃ p ∈ E, val p.1 = hi) (hhi' : ∀ p ∈ E, val p.1 ≤ hi) :
    CallW Try.prog 82 [.agg [.fn (.func g) [] []], .mp 0] (mpS (mapE flV E) cl) (fun v st' => st'.h.get 0 = some (.map (mapE flV E) cl) ∧ freeB st'.h not0 = true ∧ Eqv (frz st'.h not0 3 v) (rangeV lo hi)) := by
  obtain ⟨O, hO⟩ : ∃ O : Ar, O = std := ⟨_, rfl⟩
  have hM := mapS hb
  obtain ⟨ME, hME⟩ : ∃ m, mapE flV E = m := ⟨_, rfl⟩
  rw [hME] at hM ⊢
  refine callW_of_body tok Try.func82 rfl ?_
  refine SW.seqRun tok hO (by cbv <;> rfl) (by trivial) ?_
  refine SW.seqRun tok hO (by cbv <;> rfl) (by trivial) ?_
  refine SW.seq ?_
  refine SW.seq (SW.runN tok hO 1 (by cbv <;> rfl) (by trivial) ?_)
  refine OpsW.range tok (kt := 48) (by cbv <;> rfl) (by kernel_rfl) (by rfl) ?_
  refine OpsW.nil ?_
  refine (SW.block (SW.loopR (fun x : List (WK × Nat) => ⟨⟨29, getT [(2, .ptr 1 0), (4, .ptr 2 0), (5, slG 4 1 x.length), (8, .ptr 3 0)]⟩, []⟩)
    (fun x => ⟨[(3, .iter 0 cl (x.map (·.2)) cl), (2, .cells none false [iV 0, iV 0]), (1, .cells none false [.fn (.func g) [] []]), (0, .map ME cl)] ++ objG 4 1 (intC (vlL val x)) x.length, 5⟩)
    (fun x => lftN ME x) (fun x => (∀ p ∈ x, p ∈ E) ∧ lftN ME x + x.length ≤ E.length) [] hM.start (ren1 4 4) ?_ fun x hx => ?_))
  · exact WeakR.up rfl rfl (by simp) (Nat.le_refl _) (.inl rfl) (by show 4 ≤ 5; omega) ⟨RenV.ptr (by omega), RenV.ptr (by omega), RenV.closed Below.lit, RenV.ptr (by omega), trivial⟩
      ⟨⟨by omega, _, rfl, .iter (by omega), .inr rfl⟩, ⟨by omega, _, rfl, .cells (.cons (RenV.closed Below.lit) (.cons (RenV.closed Below.lit) .nil)), .inr rfl⟩, ⟨by omega, _, rfl, .cells (.cons (RenV.closed (Below.fn (fun _ h => nomatch h) (fun _ h => nomatch h))) .nil), .inr rfl⟩, ⟨by omega, _, rfl, .map hM.closed, .inr rfl⟩, trivial⟩ (fun p hp => by cases hp)
  obtain ⟨S, hS⟩ : ∃ s, x.map (·.2) = s := ⟨_, rfl⟩
  have hxl : x.length ≤ E.length := by omega
  have hsn := vlL_snoc val x
  have hxp : ∀ p : WK × Nat, (x ++ [p]).length = x.length + 1 := fun p => by rw [List.length_append, List.length_singleton]
  rw [hS]
  have hnx : ∀ p ∈ E, S.contains p.2 = false → ∀ (f' : Fm) (st' : St) (ρ : Nat → Nat), WeakR 4 ρ f' st' ⟨⟨29, getT [(2, .ptr 1 0), (4, .ptr 2 0), (5, slG 4 1 (x.length + 1)), (8, .ptr 3 0)]⟩, []⟩ ⟨[(3, .iter 0 cl (S ++ [p.2]) cl), (2, .cells none false [iV 0, iV 0]), (1, .cells none false [.fn (.func g) [] []]), (0, .map ME cl)] ++ objG 4 1 (intC (vlL val (x ++ [p]))) (x.length + 1), 5⟩ →
      ∃ x', lftN ME x' < lftN ME x ∧ ((∀ p ∈ x', p ∈ E) ∧ lftN ME x' + x'.length ≤ E.length) ∧ ∃ ρ, WeakR 4 ρ f' st' ⟨⟨29, getT [(2, .ptr 1 0), (4, .ptr 2 0), (5, slG 4 1 x'.length), (8, .ptr 3 0)]⟩, []⟩ ⟨[(3, .iter 0 cl (x'.map (·.2)) cl), (2, .cells none false [iV 0, iV 0]), (1, .cells none false [.fn (.func g) [] []]), (0, .map ME cl)] ++ objG 4 1 (intC (vlL val x')) x'.length, 5⟩ := fun p hp hny f' st' ρ h => by
    obtain ⟨n1, n2, n3, n4⟩ := hM.next hx hS hp hny
    exact ⟨x ++ [p], n1, ⟨n2, n3⟩, ρ, by rw [n4, hxp]; exact h⟩
  cases hn : x.length with
  | zero =>
    obtain rfl : x = [] := List.length_eq_zero_iff.1 hn
    have hS0 : S = [] := hS.symm
    refine SW.seq (SW.runN tok hO 0 (by cbv <;> rfl) (by trivial) ?_)
    refine OpsW.nextL (a := .ptr 3 0) (by cbv <;> rfl) (by rfl) (by rfl) hM.born (fun he => ?_) (fun y hy hny => ?_)
    · exfalso
      obtain ⟨p, hp, _⟩ := hlo
      have := hM.fin hb hx.1 hS he p hp
      cases this
    · obtain ⟨p, hp, rfl⟩ := hM.es y hy
      have hfil := hM.one hp
      have hof' := hof p hp
      have hnx := hnx p hp hny
      have hsn := hsn p
      obtain ⟨⟨⟨a0, a1, a2⟩, hab⟩, born⟩ := p
      obtain ⟨u, hu⟩ : ∃ u, val ⟨(a0, a1, a2), hab⟩ = u := ⟨_, rfl⟩
      obtain ⟨V2, hV2⟩ : ∃ v, vlL val ([] ++ [(⟨(a0, a1, a2), hab⟩, born)]) = v := ⟨_, rfl⟩
      simp only [hu] at hof' hsn
      rw [hV2] at hsn hnx
      obtain ⟨S2, hS2⟩ : ∃ s, S ++ [born] = s := ⟨_, rfl⟩
      simp only [hS2] at hnx
      show OpsW _ _ _ _ _ _ ⟨(3, .iter 0 cl (S ++ [born]) cl) :: (2, .cells none false [iV 0, iV 0]) :: (1, .cells none false [.fn (.func g) [] []]) :: (0, .map ME cl) :: [], 5⟩
      rw [hS2]
      refine OpsW.run tok hO (by cbv <;> rfl) (by trivial) ?_
      refine SW.seq (SW.cond (t := true) (by cbv <;> rfl) (SW.skip ?_))
      refine SW.block ?_
      refine SW.seq (SW.runN tok hO 0 (by cbv <;> rfl) (by trivial) ?_)
      have hlast : S2.getLast? = some born := by rw [← hS2]; simp
      refine OpsW.entryL (a := .ptr 3 0) (by cbv <;> rfl) (by rfl) (by rfl) hlast hM.born2 hfil ?_
      refine OpsW.run tok hO (by cbv <;> rfl) (by trivial) ?_
      refine (show SW _ _ _ _ _ _ from ?_)
      refine SW.runN tok hO 4 (by cbv <;> rfl) (by trivial) ?_
      refine OpsW.callP hof' (by cbv <;> rfl) ?_
      refine OpsW.runN tok hO 6 (by cbv <;> rfl) (by trivial) ?_
      refine OpsW.appNil tok (by cbv <;> rfl) (by rfl) (by kernel_rfl) (by rfl) (by rfl) ?_
      refine OpsW.run tok hO (by cbv <;> rfl) (by trivial) ?_
      refine hnx _ _ (ren1 4 7) ?_
      refine WeakR.up rfl rfl (by simp) (Nat.le_refl _) (.inr (by omega)) (by show 4 ≤ 5; omega) ⟨RenV.ptr (by omega), RenV.ptr (by omega), RenV.sl (by omega), RenV.ptr (by omega), trivial⟩
        ⟨⟨by omega, _, rfl, .iter (by omega), .inr rfl⟩, ⟨by omega, _, rfl, .cells (.cons (RenV.closed Below.lit) (.cons (RenV.closed Below.lit) .nil)), .inr rfl⟩, ⟨by omega, _, rfl, .cells (.cons (RenV.closed (Below.fn (fun _ h => nomatch h) (fun _ h => nomatch h))) .nil), .inr rfl⟩, ⟨by omega, _, rfl, .map hM.closed, .inr rfl⟩, trivial⟩ (fun p hp => ?_)
      obtain rfl := objG_mem hp
      exact ⟨by omega, _, rfl, .cells (RenVs.of_eq hsn (flatG_below (fun _ _ => Below.lit) _)), .inl rfl⟩
  | succ m =>
    obtain ⟨G, hG⟩ : ∃ G, G = flatG 1 (intC (vlL val x)) (m + 1) := ⟨_, rfl⟩
    show SW _ _ _ _ _ ⟨(3, .iter 0 cl S cl) :: (2, .cells none false [iV 0, iV 0]) :: (1, .cells none false [.fn (.func g) [] []]) :: (0, .map ME cl) :: [(4, .cells none false (flatG 1 (intC (vlL val x)) (m + 1)))], 5⟩
    rw [← hG]
    refine SW.seq (SW.runN tok hO 0 (by cbv <;> rfl) (by trivial) ?_)
    refine OpsW.nextL (a := .ptr 3 0) (by cbv <;> rfl) (by rfl) (by rfl) hM.born (fun he => ?_) (fun y hy hny => ?_)
    · refine OpsW.run tok hO (by cbv <;> rfl) (by trivial) ?_
      refine SW.seq (SW.cond (t := false) (by cbv <;> rfl) (SW.exit ?_))
      have hcov := hM.fin hb hx.1 hS he
      have hmem : ∀ i, i < x.length → ∃ p ∈ E, vlL val x i = val p.1 := fun i hi => ⟨x[i], hx.1 _ (List.getElem_mem hi), by unfold vlL; simp [hi]⟩
      have hcv : ∀ p ∈ E, ∃ i, i < x.length ∧ vlL val x i = val p.1 := fun p hp => by
        obtain ⟨i, hi, he⟩ := List.getElem_of_mem (hcov p hp)
        exact ⟨i, hi, by unfold vlL; simp [hi, he]⟩
      generalize vlL val x = V at hmem hcv hG ⊢
      rw [hn] at hmem hcv
      have hm : m + 1 < 1000001 := by omega
      refine (show SW _ _ _ _ _ _ from ?_)
      refine SW.pre (f2 := ⟨⟨29, getT [(4, .ptr 2 0), (5, .sl 4 0 (m + 1) 1 false)]⟩, []⟩) (st2 := ⟨[(4, .cells none false G), (2, .cells none false [iV 0, iV 0]), (0, .map ME cl)], 5⟩) ?_ ?_
      · exact Weak.by rfl rfl (by simp) (Nat.le_refl _) (Nat.le_refl _) ⟨⟨rfl, .inl rfl⟩, ⟨rfl, .inl rfl⟩, trivial⟩ ⟨⟨rfl, by show _ < 5; omega, .inl rfl⟩, ⟨rfl, by show _ < 5; omega, .inl rfl⟩, ⟨rfl, by show _ < 5; omega, .inl rfl⟩, trivial⟩
      refine SW.freezeZ (fun j => Nat.beq j 4) 3 (by rfl) ?_
      obtain ⟨NN, hNN⟩ : ∃ NN, NN = m + 1 := ⟨_, rfl⟩
      refine SW.preR (f2 := ⟨⟨29, getT [(4, .ptr 2 0), (5, intsV NN false V)]⟩, []⟩) (st2 := ⟨[(2, .cells none false [iV 0, iV 0]), (0, .map ME cl)] ++ [], 5⟩) (ρ := ren1 5 5) ?_ ?_
      · refine WeakR.up rfl rfl (by simp) (Nat.le_refl _) (.inl rfl) (Nat.le_refl _) ⟨RenV.ptr (by omega), RenV.eqv (RenV.closed (intsV_below _ _ _)) ?_, trivial⟩
          ⟨⟨by omega, _, rfl, .cells (.cons (RenV.closed Below.lit) (.cons (RenV.closed Below.lit) .nil)), .inr rfl⟩, ⟨by omega, _, rfl, .map hM.closed, .inr rfl⟩, trivial⟩ (fun p hp => by cases hp)
        have hz := frz_slE (h := [(4, AObj.cells none false G), (2, AObj.cells none false [iV 0, iV 0]), (0, AObj.map ME cl)]) (D := fun j => Nat.beq j 4) (id := 4) (n := m + 1) (sz := 1) (fm := none) (G := G) rfl rfl (by rw [hG, flatG_length]; omega)
        refine Eqv.trans (b := frz [(4, AObj.cells none false G), (2, AObj.cells none false [iV 0, iV 0]), (0, AObj.map ME cl)] (fun j => Nat.beq j 4) 3 (.sl 4 0 (m + 1) 1 false)) (Eqv.of rfl) ?_
        rw [hz, hNN]
        exact Eqv.isl rfl fun i k hi hk => Eqv.of (by rw [hG]; exact frz_flat hi hk rfl)
      have hN0 : (0 : Int) < Int.ofNat NN := by rw [hNN]; exact Int.ofNat_lt.2 (Nat.succ_pos m)
      have hmin : leN (V 0) (fun i => V (1 + i)) m = lo := by
        obtain ⟨⟨h1, h2⟩, h3⟩ := leN_le (V 0) (fun i => V (1 + i)) m
        obtain ⟨p, hp, he⟩ := hlo
        obtain ⟨i, hi, hVi⟩ := hcv p hp
        have hge : leN (V 0) (fun i => V (1 + i)) m ≤ lo := by
          rw [← he, ← hVi]
          cases i with
          | zero => exact h1
          | succ i =>
            have h4 : leN (V 0) (fun i => V (1 + i)) m ≤ V (1 + i) := h2 i (by omega)
            rw [show 1 + i = i + 1 by omega] at h4; exact h4
        have hle : lo ≤ leN (V 0) (fun i => V (1 + i)) m := by
          rcases h3 with h3 | ⟨j, hj, h3⟩
          · obtain ⟨p, hp, e⟩ := hmem 0 (by omega)
            rw [h3, e]; exact hlo' p hp
          · obtain ⟨p, hp, e⟩ := hmem (1 + j) (by omega)
            rw [h3]
            show lo ≤ V (1 + j)
            rw [e]; exact hlo' p hp
        omega
      have hmax : grN (V 0) (fun i => V (i + 1)) m = hi := by
        obtain ⟨⟨h1, h2⟩, h3⟩ := grN_ge (V 0) (fun i => V (i + 1)) m
        obtain ⟨p, hp, he⟩ := hhi
        obtain ⟨i, hi', hVi⟩ := hcv p hp
        have hge : hi ≤ grN (V 0) (fun i => V (i + 1)) m := by
          rw [← he, ← hVi]
          cases i with
          | zero => exact h1
          | succ i => exact h2 i (by omega)
        have hle : grN (V 0) (fun i => V (i + 1)) m ≤ hi := by
          rcases h3 with h3 | ⟨j, hj, h3⟩
          · obtain ⟨p, hp, e⟩ := hmem 0 (by omega)
            rw [h3, e]; exact hhi' p hp
          · obtain ⟨p, hp, e⟩ := hmem (j + 1) (by omega)
            rw [h3]
            show V (j + 1) ≤ hi
            rw [e]; exact hhi' p hp
        omega
      have c97 : Pure Try.prog 110 [iV (V (O.nat 0)), .isl (O.sub NN (O.nat 1)) 1 false (fun i => intC V (O.add (O.nat 1) i))] (iV lo) := by
        subst hO
        show Pure Try.prog 110 [iV (V 0), intsV (NN - 1) false (fun i => V (1 + i))] (iV lo)
        rw [hNN, Nat.add_sub_cancel, ← hmin, ← leastN_le]
        exact least_ok (V 0) m false (fun i => V (1 + i)) (by omega)
      have c98 : Pure Try.prog 123 [.isl NN 1 false (intC V)] (iV hi) := by
        have := greatest_ok NN false V (by omega) (by omega)
        rw [hNN, Nat.add_sub_cancel, hmax, ← hNN] at this
        exact this
      refine SW.seqRunD tok mixed hO (by rfl) (by cbv <;> rfl) ?_ ?_
      · have hn1 : O.nat 1 = 1 := by subst hO; rfl
        refine ⟨?_, Nat.le_refl _, (by decide : (0 : Int) ≤ 1), Int.le_refl _, hN0⟩
        show O.nat 1 ≤ NN
        rw [hn1]; omega
      refine AnyE.callP c97 (by cbv <;> rfl) (by cbv <;> rfl) ?_
      refine AnyE.run tok hO (by rfl) (by cbv <;> rfl) (by trivial) ?_
      refine AnyE.callP c98 (by cbv <;> rfl) (by cbv <;> rfl) ?_
      refine AnyE.run tok hO (by rfl) (by cbv <;> rfl) (by trivial) ?_
      refine AnyE.eff tok hO (by cbv <;> rfl) (by cbv <;> rfl) (by trivial) ?_
      refine AnyE.done (by rfl) ?_
      exact SW.ret ⟨_, _, rfl, rfl, rfl, rfl, Eqv.of rfl⟩
    · obtain ⟨p, hp, rfl⟩ := hM.es y hy
      have hfil := hM.one hp
      have hof' := hof p hp
      have hnx := hnx p hp hny
      have hsn := hsn p
      rw [hn] at hsn hnx
      rw [← hG] at hsn
      obtain ⟨V2, hV2⟩ : ∃ v, vlL val (x ++ [p]) = v := ⟨_, rfl⟩
      rw [hV2] at hsn hnx
      obtain ⟨⟨⟨a0, a1, a2⟩, hab⟩, born⟩ := p
      obtain ⟨u, hu⟩ : ∃ u, val ⟨(a0, a1, a2), hab⟩ = u := ⟨_, rfl⟩
      simp only [hu] at hof' hsn
      obtain ⟨S2, hS2⟩ : ∃ s, S ++ [born] = s := ⟨_, rfl⟩
      simp only [hS2] at hnx
      show OpsW _ _ _ _ _ _ ⟨(3, .iter 0 cl (S ++ [born]) cl) :: (2, .cells none false [iV 0, iV 0]) :: (1, .cells none false [.fn (.func g) [] []]) :: (0, .map ME cl) :: [(4, .cells none false G)], 5⟩
      rw [hS2]
      refine OpsW.run tok hO (by cbv <;> rfl) (by trivial) ?_
      refine SW.seq (SW.cond (t := true) (by cbv <;> rfl) (SW.skip ?_))
      refine SW.block ?_
      refine SW.seq (SW.runN tok hO 0 (by cbv <;> rfl) (by trivial) ?_)
      have hlast : S2.getLast? = some born := by rw [← hS2]; simp
      refine OpsW.entryL (a := .ptr 3 0) (by cbv <;> rfl) (by rfl) (by rfl) hlast hM.born2 hfil ?_
      refine OpsW.run tok hO (by cbv <;> rfl) (by trivial) ?_
      refine (show SW _ _ _ _ _ _ from ?_)
      refine SW.runN tok hO 4 (by cbv <;> rfl) (by trivial) ?_
      refine OpsW.callP hof' (by cbv <;> rfl) ?_
      refine OpsW.runN tok hO 6 (by cbv <;> rfl) (by trivial) ?_
      refine OpsW.appOne (g := intC (vlL val x)) tok (by cbv <;> rfl) (by rfl) (by rfl) hG (by kernel_rfl) (by rfl) (by rfl) (by omega) fun G' hG' => ?_
      refine OpsW.run tok hO (by cbv <;> rfl) (by trivial) ?_
      refine hnx _ _ (ren1 4 7) ?_
      rw [← hG] at hG'
      refine WeakR.up rfl rfl (by simp) (Nat.le_refl _) (.inr (by omega)) (by show 4 ≤ 5; omega) ⟨RenV.ptr (by omega), RenV.ptr (by omega), RenV.sl (by omega), RenV.ptr (by omega), trivial⟩
        ⟨⟨by omega, _, rfl, .iter (by omega), .inr rfl⟩, ⟨by omega, _, rfl, .cells (.cons (RenV.closed Below.lit) (.cons (RenV.closed Below.lit) .nil)), .inr rfl⟩, ⟨by omega, _, rfl, .cells (.cons (RenV.closed (Below.fn (fun _ h => nomatch h) (fun _ h => nomatch h))) .nil), .inr rfl⟩, ⟨by omega, _, rfl, .map hM.closed, .inr rfl⟩, trivial⟩ (fun p hp => ?_)
      obtain rfl := objG_mem hp
      exact ⟨by omega, _, rfl, .cells (RenVs.of_eq (hG'.trans hsn) (flatG_below (fun _ _ => Below.lit) _)), .inl rfl⟩
end Go.Fz
