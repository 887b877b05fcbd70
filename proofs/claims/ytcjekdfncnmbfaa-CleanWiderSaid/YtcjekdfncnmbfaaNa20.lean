/- Own work of the verifier of watercress: FzCl41, FzCl42, FzCl43, FzCl44, FzCl45. -/
import Derived.Test.YtcjekdfncnmbfaaNa19
set_option linter.unusedVariables false
set_option linter.unusedSimpArgs false
set_option linter.unusedVariables false
namespace Go.Fz
open Go.Proofs
set_option maxRecDepth 100000
def wkN (S : List (Nat → Int)) (b lo : Int) : Nat → List Int
  | 0 => []
  | i + 1 => nxW S b (wkN S b lo i) (lo + (i : Nat))
theorem wkN_len (S : List (Nat → Int)) (b lo : Int) : ∀ i, (wkN S b lo i).length ≤ i
  | 0 => Nat.le_refl _
  | i + 1 => by
    have := wkN_len S b lo i
    show (nxW S b (wkN S b lo i) (lo + (i : Nat))).length ≤ i + 1
    unfold nxW
    split
    · rw [List.length_append, List.length_singleton]; omega
    · omega
def YardD.wkL (y : YardD) (b : Int) : List Int := wkN (y.ownL (y.hasB b)) b (y.blo b.toNat) (y.bhi b.toNat - y.blo b.toNat + 1).toNat
def YardD.wkV (y : YardD) (b : Int) : AV := if y.ownE (y.hasB b) = 0 then zV (y.wkL b) else nl3
theorem wkV_below (y : YardD) (b : Int) : Below 0 (y.wkV b) := by
  unfold YardD.wkV
  split
  · exact zV_below _
  · exact Below.lit
theorem frz_z {s : List Int} {h : Hp} {q : Nat} (hg : ∀ o, Hp.get (objG q 1 (zC s) s.length) q = some o → h.get q = some o) : Eqv (frz h (fun _ => true) 3 (slG q 1 s.length)) (zV s) := by
  unfold zV
  cases hL : s.length with
  | zero => exact Eqv.nil
  | succ L =>
    show Eqv (frz _ _ 3 (.sl q 0 (L + 1) 1 false)) _
    have h1 : h.get q = some (.cells none false (flatG 1 (zC s) (L + 1))) := hg _ (by rw [hL]; simp [objG, Hp.get])
    rw [frz_slE (fm := none) (G := flatG 1 (zC s) (L + 1)) rfl h1 (by rw [flatG_length]; omega)]
    exact Eqv.isl rfl fun i' k hi' hk => Eqv.of (frz_flat hi' hk rfl)
set_option maxHeartbeats 8000000 in
theorem weeks_ok (y : YardD) (hb : y.nb < 1000000) (hc : y.nc < 1000000) (b : Int) : Pure Try.prog 27 [yardV y, iV b] (.tup [y.wkV b, iV (y.ownE (y.hasB b))]) := by
  obtain ⟨O, hO⟩ : ∃ O : Ar, O = std := ⟨_, rfl⟩
  have e0 := hasBed_ok y b
  have e1 := own_ok y hb hc (y.hasB b)
  have hbel := wkV_below y b
  have hz : y.ownE (y.hasB b) ≠ 0 → y.wkV b = nl3 := fun h => if_neg h
  have hs : y.ownE (y.hasB b) = 0 → y.wkV b = zV (y.wkL b) := fun h => if_pos h
  have hfit : y.ownE (y.hasB b) = 0 → y.Fit ∧ (0 ≤ b ∧ b < (y.nb : Nat)) ∧ (y.ownL (y.hasB b)).length < 2000000 := fun h => by
    obtain ⟨k1, _, k3⟩ := YardD.own_some h
    obtain ⟨h1, h2, _⟩ := YardD.any_ok0 k3
    refine ⟨(y.fit_of_check h1).1, ?_, ?_⟩
    · simp only [YardD.hasB, Bool.and_eq_true, decide_eq_true_eq] at h2
      exact h2
    · rw [k1]
      have k4 := YardD.any_len k3
      have k5 : y.kept.length ≤ y.allS.length := List.length_filter_le _ _
      omega
  have hwk : y.wkL b = wkN (y.ownL (y.hasB b)) b (y.blo b.toNat) (y.bhi b.toNat - y.blo b.toNat + 1).toNat := rfl
  generalize y.wkV b = V at hbel hz hs ⊢
  generalize y.wkL b = WL at hs hwk
  generalize y.hasB b = HB at *
  generalize y.ownL HB = S at *
  obtain ⟨E, hE⟩ : ∃ E, y.ownE HB = E := ⟨_, rfl⟩
  rw [hE] at e1 hz hs hfit ⊢
  have hrnd := fun (h : E = 0) (hr : (0 : Int) ≤ b ∧ b < 6) (lo hi : Int) (s : List Int) (hs : s.length < 1000) (w : Int) => wk_round y b lo hi hr.1 hr.2 S (hfit h).2.2 s hs w
  have hlow := fun (lo hi : Int) (s : List Int) => wkH_low y b lo hi (lsV6_below S) s
  have hfrz : ∀ (q : Nat) (st' : St), (∀ o, Hp.get (objG q 1 (zC WL) WL.length) q = some o → st'.h.get q = some o) → Eqv (frz st'.h (fun _ => true) 4 (.tup [slG q 1 WL.length, iV 0])) (.tup [zV WL, iV 0]) := fun q st' h => Eqv.tup (.cons (frz_z h) (.cons (Eqv.refl _) .nil))
  unfold lsV6 at e1 hrnd hlow
  obtain ⟨g, hg⟩ : ∃ g, gS S = g := ⟨_, rfl⟩
  rw [hg] at e1 hrnd hlow
  obtain ⟨N, hN⟩ : ∃ N, S.length = N := ⟨_, rfl⟩
  rw [hN] at e1 hrnd hlow
  refine pure_of_body tok 4 Try.func27 en27 rfl ⟨yardV_below y, Below.lit, trivial⟩ (Below.tup (AllB.ok ⟨hbel, Below.lit, trivial⟩)) ?_
  refine SW.seqRun tok hO (by cbv <;> rfl) (by trivial) ?_
  refine SW.seq ((show SW Try.prog none _ (midK 37 [(2, .ptr 0 0), (3, .ptr 1 0), (6, .ptr 2 0), (7, iV E)] ⟨[(2, .cells none false [.isl N 6 false g]), (1, .cells none false [iV b]), (0, .cells none false (yardC y))], 3⟩) _ _ from ?_).mono fun e f st hm => ?_)
  · refine SW.runD tok mixed hO (by rfl) (by cbv <;> rfl) (by trivial) ?_
    refine AnyE.many [3, 8] (by cbv <;> rfl) (by rfl) ⟨?_, ?_, trivial⟩
    · refine PickE.callQ e0 (by cbv <;> rfl) (by cbv <;> rfl) ?_ ?_
      · exact (by repeat (first | exact trivial | refine And.intro (by first | exact lv_of hO (by cbv <;> rfl) (by trivial) | (cbv <;> rfl)) ?_))
      refine AnyE.run tok hO (by rfl) (by cbv <;> rfl) (by trivial) ?_
      refine AnyE.many [4, 8] (by cbv <;> rfl) (by rfl) ⟨?_, ?_, trivial⟩
      · refine PickE.callQ e1 (by cbv <;> rfl) (by cbv <;> rfl) ?_ ?_
        · exact (by repeat (first | exact trivial | refine And.intro (by first | exact lv_of hO (by cbv <;> rfl) (by trivial) | (cbv <;> rfl)) ?_))
        refine AnyE.run tok hO (by rfl) (by cbv <;> rfl) (by trivial) ?_
        refine AnyE.effK tok hO (by cbv <;> rfl) (by cbv <;> rfl) (by trivial) ?_ ?_
        · exact (by repeat (first | exact trivial | refine And.intro (by first | exact lv_of hO (by cbv <;> rfl) (by trivial) | (cbv <;> rfl)) ?_))
        refine AnyE.run tok hO (by rfl) (by cbv <;> rfl) (by trivial) ?_
        refine AnyE.effK tok hO (by cbv <;> rfl) (by cbv <;> rfl) (by trivial) ?_ ?_
        · exact (by repeat (first | exact trivial | refine And.intro (by first | exact lv_of hO (by cbv <;> rfl) (by trivial) | (cbv <;> rfl)) ?_))
        refine AnyE.run tok hO (by rfl) (by cbv <;> rfl) (by trivial) ?_
        exact ⟨rfl, _, rfl, ⟨rfl, rfl, rfl, rfl, trivial⟩, rfl⟩
      · refine PickE.eff tok hO (by cbv <;> rfl) (by cbv <;> rfl) (by trivial) ?_ ?_
        · exact (by repeat (first | exact trivial | refine And.intro (by first | exact lv_of hO (by cbv <;> rfl) (by trivial) | (cbv <;> rfl)) ?_))
        refine AnyE.run tok hO (by rfl) (by cbv <;> rfl) (by trivial) ?_
        refine AnyE.callP e1 (by cbv <;> rfl) (by cbv <;> rfl) ?_
        refine AnyE.run tok hO (by rfl) (by cbv <;> rfl) (by trivial) ?_
        refine AnyE.effK tok hO (by cbv <;> rfl) (by cbv <;> rfl) (by trivial) ?_ ?_
        · exact (by repeat (first | exact trivial | refine And.intro (by first | exact lv_of hO (by cbv <;> rfl) (by trivial) | (cbv <;> rfl)) ?_))
        refine AnyE.run tok hO (by rfl) (by cbv <;> rfl) (by trivial) ?_
        exact ⟨rfl, _, rfl, ⟨rfl, rfl, rfl, rfl, trivial⟩, rfl⟩
    · refine PickE.eff tok hO (by cbv <;> rfl) (by cbv <;> rfl) (by trivial) ?_ ?_
      · exact (by repeat (first | exact trivial | refine And.intro (by first | exact lv_of hO (by cbv <;> rfl) (by trivial) | (cbv <;> rfl)) ?_))
      refine AnyE.run tok hO (by rfl) (by cbv <;> rfl) (by trivial) ?_
      refine AnyE.callP e0 (by cbv <;> rfl) (by cbv <;> rfl) ?_
      refine AnyE.run tok hO (by rfl) (by cbv <;> rfl) (by trivial) ?_
      refine AnyE.callP e1 (by cbv <;> rfl) (by cbv <;> rfl) ?_
      refine AnyE.run tok hO (by rfl) (by cbv <;> rfl) (by trivial) ?_
      refine AnyE.effK tok hO (by cbv <;> rfl) (by cbv <;> rfl) (by trivial) ?_ ?_
      · exact (by repeat (first | exact trivial | refine And.intro (by first | exact lv_of hO (by cbv <;> rfl) (by trivial) | (cbv <;> rfl)) ?_))
      refine AnyE.run tok hO (by rfl) (by cbv <;> rfl) (by trivial) ?_
      exact ⟨rfl, _, rfl, ⟨rfl, rfl, rfl, rfl, trivial⟩, rfl⟩
  obtain ⟨rfl, gg, rfl, ⟨g2, g3, g6, g7, _⟩, rfl⟩ := hm
  simp only at g2 g3 g6 g7
  rw [← updT_self g2, ← updT_self g3, ← updT_self g6, ← updT_self g7]
  clear e0 e1
  refine (show SW _ _ _ _ _ _ from ?_)
  refine SW.seq ?_
  refine SW.seqRun tok hO (by cbv <;> rfl) (by trivial) ?_
  refine SW.condS (by cbv <;> rfl) (fun h1 => ?_) (fun h1 => SW.skip ?_)
  · have h0 : E ≠ 0 := by subst hO; simpa [std] using h1
    rw [hz h0]
    refine SW.seqRun tok hO (by cbv <;> rfl) (by trivial) ?_
    exact SW.ret ⟨_, _, rfl, rfl, Eqv.of rfl⟩
  have h0 : E = 0 := by subst hO; simpa [std] using h1
  obtain ⟨hf, ⟨hb0, hbn⟩, _⟩ := hfit h0
  have hnb := hf.nb
  replace hrnd := hrnd h0 ⟨hb0, by omega⟩
  rw [hs h0]
  subst h0
  have hbt : b.toNat < y.nb := by omega
  obtain ⟨hl0, hlh, hh9⟩ := hf.beg b.toNat hbt
  have hnat : O.nat b = b.toNat := by subst hO; rfl
  have hr71 := fun (h : Hp) (n : Nat) => range71 (y.blo (O.nat b)) (y.bhi (O.nat b)) h n
  have hblo : y.blo (O.nat b) = y.blo b.toNat := by rw [hnat]
  have hbhi : y.bhi (O.nat b) = y.bhi b.toNat := by rw [hnat]
  obtain ⟨lo, hlo⟩ : ∃ x, y.blo b.toNat = x := ⟨_, rfl⟩
  obtain ⟨hi, hhi⟩ : ∃ x, y.bhi b.toNat = x := ⟨_, rfl⟩
  rw [hlo, hhi] at hlh hwk
  rw [hlo] at hl0 hblo
  rw [hhi] at hh9 hbhi
  obtain ⟨C, hC⟩ : ∃ C, (hi - lo + 1).toNat = C := ⟨_, rfl⟩
  rw [hC] at hwk
  have hall := all97 (K := fun i st => ∃ q n, st = ⟨wkH y b lo hi (.isl N 6 false g) (wkN S b lo i) q, n⟩ ∧ (q = 48 ∨ 49 ≤ q) ∧ q < n ∧ 49 ≤ n) (stop := fun _ _ => False) (y := 6) (m := 4) (lo := lo) (hi := hi) (by omega) (by omega) (by omega)
    (fun i st ⟨q, n, e, _⟩ => by rw [e]; exact ⟨none, false, rfl⟩)
    (fun i st hi' ⟨q, n, e, kq, kn, k9⟩ => by
      rw [e]
      have hlen := wkN_len S b lo i
      have hr2 := YieldW.lowM (m := 49) (n := n) (q := q) (H := wkH y b lo hi (.isl N 6 false g) (wkN S b lo i)) (by omega) (by omega) (by omega) k9 kq kn (hlow lo hi _) (fun a ha => by rw [List.mem_singleton.1 ha]; exact Below.lit) (hrnd lo hi (wkN S b lo i) (by omega) (lo + (i : Nat)))
      refine hr2.mono fun r st' hk => ?_
      obtain ⟨H', q', n', ⟨rfl, rfl⟩, _, hn', hq', hqn, rfl⟩ := hk
      exact .inl ⟨rfl, q', n', rfl, by omega, hqn, by omega⟩)
    (st := ⟨wkH y b lo hi (.isl N 6 false g) [] 48, 49⟩) ⟨48, 49, rfl, .inl rfl, by omega, by omega⟩
  rw [hC, ← hwk] at hall
  clear hrnd hlow hlh hh9 hl0 hlo hhi hC hwk hf
  refine (show SW _ _ _ _ _ _ from ?_)
  refine SW.seqRun tok hO (by cbv <;> rfl) (by trivial) ?_
  refine SW.seq ?_
  refine SW.seqRun tok hO (by cbv <;> rfl) ?_ ?_
  · exact ⟨hb0, hbn⟩
  refine OpsW.callS en71 (hr71 _ _) (by cbv <;> rfl) fun r st' hk => ?_
  obtain ⟨rfl, rfl⟩ := hk
  rw [hblo, hbhi]
  refine OpsW.run tok hO (by cbv <;> rfl) (by trivial) ?_
  refine SW.block ?_
  refine SW.fmT (len := 37) wkL rfl rfl ⟨⟨rfl, .inl rfl⟩, ⟨rfl, .inl rfl⟩, ⟨rfl, .inl rfl⟩, ⟨rfl, .inl rfl⟩, ⟨rfl, .inl rfl⟩, trivial⟩ (fun id o ho => by
    have := Hp.mem_of_get ho
    simp only [List.mem_cons, Prod.mk.injEq, List.not_mem_nil, or_false] at this
    omega) ?_
  refine SW.rangeFunc (gf := 97) (first := []) (caps := [.ptr 4 0]) (by rfl) en97 ?_
  refine CallW.mono (CallW.pad (n := 49) (by show 7 ≤ 49; omega) (show CallW Try.prog 97 [.yld 6, .ptr 4 0] ⟨wkH y b lo hi (.isl N 6 false g) [] 48, 49⟩ _ from hall)) fun r st' hk => ?_
  rcases hk with ⟨q, n, rfl, hq, hqn, hn⟩ | ⟨i, _, hk⟩
  · refine ⟨wkR, rfl, (fun h => by simp [wkR] at h), ?_⟩
    have hfz := hfrz q
    unfold wkH wkF
    obtain ⟨X, hX⟩ : ∃ X, slG q 1 WL.length = X := ⟨_, rfl⟩
    obtain ⟨B, hB⟩ : ∃ B, objG q 1 (zC WL) WL.length = B := ⟨_, rfl⟩
    rw [hX, hB] at hfz
    rw [hX, hB]
    show SW _ _ _ _ _ _
    refine SW.seqRun tok hO (by cbv <;> rfl) (by trivial) ?_
    refine SW.ret ⟨_, _, rfl, rfl, hfz _ fun o ho => ?_⟩
    refine (Hp.get_set _ 5 _ q).trans ((if_neg (by omega)).trans ?_)
    show Hp.get ((6, _) :: (5, _) :: (4, _) :: (3, _) :: (2, _) :: (1, _) :: (0, _) :: B) q = _
    simp only [Hp.get]
    rw [if_neg (by omega), if_neg (by omega), if_neg (by omega), if_neg (by omega), if_neg (by omega), if_neg (by omega), if_neg (by omega)]
    exact ho
  · exact hk.elim
end Go.Fz
set_option linter.unusedVariables false
namespace Go.Fz
open Go.Proofs
set_option maxRecDepth 100000
def YardD.emB (y : YardD) (b : Nat) (w : Int) (f : Nat → Int) : Bool := inB w (f b) (sub64 (add64 (f b) (y.lng b)) 1)
def YardD.emR (y : YardD) (b w : Int) : Bool := y.hasB b && y.hasWk w
def YardD.emV (y : YardD) (b w : Int) : Int := if y.ownE (y.emR b w) = 0 then verdict (fun i => y.emB b.toNat w ((y.ownL (y.emR b w)).getD i f0)) (y.ownL (y.emR b w)).length else 0
set_option maxHeartbeats 8000000 in
theorem empty_a (y : YardD) (b w : Int) (HB HW R : Bool) (hR : R = (HB && HW)) (N : Nat) (g : Nat → Nat → Int) (E : Int) (e0 : Pure Try.prog 70 [yardV y, iV b] (.sb HB)) (e1 : Pure Try.prog 74 [yardV y, iV w] (.sb HW)) (e2 : Pure Try.prog 60 [yardV y, .sb R] (.tup [.isl N 6 false (fun i k => iV (g i k)), iV E])) (gg : Nat → AV) (h : AllP (fun p => gg p.1 = p.2) [(1, iV b), (2, iV w), (3, .ptr 0 0)]) :
    SW Try.prog none (nthC 1 (bodyF Try.f28)) (midK 57 [(1, iV b), (2, iV w), (3, .ptr 0 0), (8, .isl N 6 false (fun i k => iV (g i k))), (9, iV E)] ⟨[(0, .cells none false (yardC y))], 1⟩) ⟨⟨57, gg⟩, []⟩ ⟨[(0, .cells none false (yardC y))], 1⟩ := by
  obtain ⟨O, hO⟩ : ∃ O : Ar, O = std := ⟨_, rfl⟩
  obtain ⟨g1, g2, g3, _⟩ := h
  simp only at g1 g2 g3
  rw [← updT_self g1, ← updT_self g2, ← updT_self g3]
  refine (show SW Try.prog none (.region 1 _ true) _ _ _ from ?_)
  refine SW.runD tok mixed hO (by kernel_rfl) (by cbv <;> rfl) (by trivial) ?_
  refine AnyE.callP e0 (by cbv <;> rfl) (by cbv <;> rfl) ?_
  refine AnyE.dec tok hO (by kernel_rfl) (by cbv <;> rfl) (by trivial) (fun h2 => ?_) (fun h2 => ?_)
  · have hB : HB = true := h2
    subst hB
    rw [Bool.true_and] at hR
    subst hR
    refine AnyE.run tok hO (by kernel_rfl) (by cbv <;> rfl) (by trivial) ?_
    refine AnyE.callP e1 (by cbv <;> rfl) (by cbv <;> rfl) ?_
    refine AnyE.dec tok hO (by kernel_rfl) (by cbv <;> rfl) (by trivial) (fun h3 => ?_) (fun h3 => ?_)
    · have hW : R = true := h3
      subst hW
      have e2' := e2.eqv (args := [yardV y, .lit (.bool true)]) (.cons (Eqv.refl _) (.cons (Eqv.litB true) .nil))
      refine AnyE.run tok hO (by kernel_rfl) (by cbv <;> rfl) (by trivial) ?_
      refine AnyE.callP e2' (by cbv <;> rfl) (by cbv <;> rfl) ?_
      refine AnyE.run tok hO (by kernel_rfl) (by cbv <;> rfl) (by trivial) ?_
      exact ⟨rfl, _, rfl, ⟨rfl, rfl, rfl, rfl, rfl, trivial⟩, rfl⟩
    · have hW : R = false := h3
      subst hW
      have e2' := e2.eqv (args := [yardV y, .lit (.bool false)]) (.cons (Eqv.refl _) (.cons (Eqv.litB false) .nil))
      refine AnyE.run tok hO (by kernel_rfl) (by cbv <;> rfl) (by trivial) ?_
      refine AnyE.callP e2' (by cbv <;> rfl) (by cbv <;> rfl) ?_
      refine AnyE.run tok hO (by kernel_rfl) (by cbv <;> rfl) (by trivial) ?_
      exact ⟨rfl, _, rfl, ⟨rfl, rfl, rfl, rfl, rfl, trivial⟩, rfl⟩
  · have hB : HB = false := h2
    subst hB
    rw [Bool.false_and] at hR
    subst hR
    have e2' := e2.eqv (args := [yardV y, .lit (.bool false)]) (.cons (Eqv.refl _) (.cons (Eqv.litB false) .nil))
    refine AnyE.run tok hO (by kernel_rfl) (by cbv <;> rfl) (by trivial) ?_
    refine AnyE.callP e2' (by cbv <;> rfl) (by cbv <;> rfl) ?_
    refine AnyE.run tok hO (by kernel_rfl) (by cbv <;> rfl) (by trivial) ?_
    exact ⟨rfl, _, rfl, ⟨rfl, rfl, rfl, rfl, rfl, trivial⟩, rfl⟩
set_option maxHeartbeats 16000000 in
theorem empty_ok (y : YardD) (hb : y.nb < 1000000) (hc : y.nc < 1000000) (b w : Int) : Pure Try.prog 28 [yardV y, iV b, iV w] (.tup [iV (y.emV b w), iV (y.ownE (y.emR b w))]) := by
  obtain ⟨O, hO⟩ : ∃ O : Ar, O = std := ⟨_, rfl⟩
  have hnati : ∀ i : Nat, O.nat (Int.ofNat i) = i := fun i => by subst hO; rfl
  have e0 := hasBed_ok y b
  have e1 := hasWeek_ok y w
  have e2 := own_ok y hb hc (y.emR b w)
  have hRR : y.emR b w = (y.hasB b && y.hasWk w) := rfl
  have hz : y.ownE (y.emR b w) ≠ 0 → y.emV b w = 0 := fun h => if_neg h
  have hv : y.ownE (y.emR b w) = 0 → y.emV b w = verdict (fun i => y.emB b.toNat w ((y.ownL (y.emR b w)).getD i f0)) (y.ownL (y.emR b w)).length := fun h => if_pos h
  have hfit : y.ownE (y.emR b w) = 0 → y.Fit ∧ (0 ≤ b ∧ b < (y.nb : Nat)) ∧ (y.ownL (y.emR b w)).length < 2000000 := fun h => by
    obtain ⟨k1, _, k3⟩ := YardD.own_some h
    obtain ⟨h1, h2, _⟩ := YardD.any_ok0 k3
    refine ⟨(y.fit_of_check h1).1, ?_, ?_⟩
    · rw [hRR, Bool.and_eq_true] at h2
      have h2 := h2.1
      simp only [YardD.hasB, Bool.and_eq_true, decide_eq_true_eq] at h2
      exact h2
    · rw [k1]
      have k4 := YardD.any_len k3
      have k5 : y.kept.length ≤ y.allS.length := List.length_filter_le _ _
      omega
  generalize y.emV b w = V at hz hv ⊢
  generalize y.emR b w = R at *
  generalize y.hasB b = HB at e0 hRR
  generalize y.hasWk w = HW at e1 hRR
  generalize y.ownL R = S at *
  obtain ⟨E, hE⟩ : ∃ E, y.ownE R = E := ⟨_, rfl⟩
  rw [hE] at e2 hz hv hfit ⊢
  unfold lsV6 at e2
  obtain ⟨g, hg⟩ : ∃ g : Nat → Nat → Int, g = fun i k => (S.getD i f0) k := ⟨_, rfl⟩
  rw [show gS S = fun i k => iV (g i k) by rw [hg]; rfl] at e2
  obtain ⟨N, hN⟩ : ∃ N, S.length = N := ⟨_, rfl⟩
  rw [hN] at e2 hfit hv
  refine pure_of_body tok 4 Try.func28 en28 rfl ⟨yardV_below y, Below.lit, Below.lit, trivial⟩ (Below.tup (AllB.ok ⟨Below.lit, Below.lit, trivial⟩)) ?_
  refine SW.seqRun tok hO (by cbv <;> rfl) (by trivial) ?_
  refine SW.seq ((empty_a y b w HB HW R hRR N g E e0 e1 e2 _ ⟨rfl, rfl, rfl, trivial⟩).mono fun e f st hm => ?_)
  obtain ⟨rfl, gg, rfl, ⟨g1, g2, g3, g8, g9, _⟩, rfl⟩ := hm
  simp only at g1 g2 g3 g8 g9
  rw [← updT_self g1, ← updT_self g2, ← updT_self g3, ← updT_self g8, ← updT_self g9]
  clear e0 e1 e2 g1 g2 g3 g8 g9
  refine (show SW _ _ _ _ _ _ from ?_)
  refine SW.seq ?_
  refine SW.seqRun tok hO (by cbv <;> rfl) (by trivial) ?_
  refine SW.condS (by cbv <;> rfl) (fun h1 => ?_) (fun h1 => SW.skip ?_)
  · have h0 : E ≠ 0 := by subst hO; simpa [std] using h1
    rw [hz h0]
    refine SW.seqRun tok hO (by cbv <;> rfl) (by trivial) ?_
    exact SW.ret ⟨_, _, rfl, rfl, Eqv.of rfl⟩
  have h0 : E = 0 := by subst hO; simpa [std] using h1
  obtain ⟨hf, ⟨hb0, hbn⟩, hN2⟩ := hfit h0
  have hnb := hf.nb
  rw [hv h0]
  clear hz hv hfit
  subst h0
  have hnat : O.nat b = b.toNat := by subst hO; rfl
  have hb6 : O.nat b < 6 := by rw [hnat]; omega
  have hb6' : b < ((6 : Nat) : Int) := by omega
  have hef := fun v : Int => emptyFrom_ok (y.lng (O.nat b)) (y.blo (O.nat b)) (y.bhi (O.nat b)) v
  have hemb : ∀ i, y.emB b.toNat w (S.getD i f0) = inB w (O.sel [g i 0, g i 1, g i 2, g i 3, g i 4, g i 5] (O.nat b)) (sub64 (add64 (O.sel [g i 0, g i 1, g i 2, g i 3, g i 4, g i 5] (O.nat b)) (y.lng (O.nat b))) 1) := fun i => by
    rw [sel_arr hO (g i) hb0 (by omega), hnat, hg]; rfl
  obtain ⟨Q, hQ⟩ : ∃ Q : Nat → Bool, Q = fun i => y.emB b.toNat w (S.getD i f0) := ⟨_, rfl⟩
  rw [← hQ]
  have hQi : ∀ i, Q i = y.emB b.toNat w (S.getD i f0) := fun i => by rw [hQ]
  clear hQ
  refine (show SW _ _ _ _ _ _ from ?_)
  refine SW.seq (SW.runN tok hO 0 (by cbv <;> rfl) (by trivial) ?_)
  refine OpsW.mkMap (by rfl) ?_
  refine OpsW.run tok hO (by cbv <;> rfl) (by trivial) ?_
  refine SW.seq ?_
  refine SW.seqRun tok hO (by cbv <;> rfl) (by trivial) ?_
  have hLb : Below 0 (AV.isl N 6 false (fun i k => iV (g i k))) := Below.isl fun i k _ _ => Below.lit
  refine (SW.block (SW.loopM (fun i : Nat => ⟨⟨57, getT [(1, iV b), (2, iV w), (3, .ptr 0 0), (10, .mp 1), (30, .isl N 6 false (fun i k => iV (g i k))), (31, iV N), (32, iV i)]⟩, []⟩) (fun i => ⟨[(1, .map (mapE AV.sb (bmP Q i).1) (bmP Q i).2), (0, .cells none false (yardC y))], 2⟩) (fun i => N - i) (fun i => i ≤ N) 0
    (fun _ => rfl) (Nat.zero_le _) (Weak.by rfl rfl (by simp) (Nat.le_refl _) (Nat.le_refl _) ⟨⟨rfl, .inl rfl⟩, ⟨rfl, .inl rfl⟩, ⟨rfl, .inl rfl⟩, ⟨rfl, .inl rfl⟩, ⟨rfl, .inl rfl⟩, ⟨rfl, .inl rfl⟩, ⟨rfl, .inl rfl⟩, trivial⟩ ⟨⟨rfl, by show 1 < 2; omega, .inl rfl⟩, ⟨rfl, by show 0 < 2; omega, .inl rfl⟩, trivial⟩) fun i hi => ?_))
  obtain ⟨EE, hEE⟩ : ∃ E, (bmP Q i).1 = E := ⟨_, rfl⟩
  obtain ⟨c2, hc2⟩ : ∃ E, (bmP Q i).2 = E := ⟨_, rfl⟩
  rw [hEE, hc2]
  obtain ⟨ME2, hME2⟩ : ∃ m, mapE AV.sb EE = m := ⟨_, rfl⟩
  rw [hME2]
  refine SW.seqRun tok hO (by cbv <;> rfl) (by trivial) ?_
  refine SW.seq (SW.condS (by cbv <;> rfl) (fun h => SW.skip ?_) (fun h => SW.exit ?_))
  · have hlt : i < N := by
      have : (i : Int) < (N : Int) := by subst hO; simpa [std] using h
      omega
    have hq1 := hQi i
    rw [hemb i] at hq1
    have hni : O.nat (Int.ofNat i) = i := hnati i
    rw [show g i = g (O.nat (Int.ofNat i)) by rw [hni]] at hq1
    have hef := hef (O.sel [g (O.nat (Int.ofNat i)) 0, g (O.nat (Int.ofNat i)) 1, g (O.nat (Int.ofNat i)) 2, g (O.nat (Int.ofNat i)) 3, g (O.nat (Int.ofNat i)) 4, g (O.nat (Int.ofNat i)) 5] (O.nat b))
    have hhs := has_ok (O.sel [g (O.nat (Int.ofNat i)) 0, g (O.nat (Int.ofNat i)) 1, g (O.nat (Int.ofNat i)) 2, g (O.nat (Int.ofNat i)) 3, g (O.nat (Int.ofNat i)) 4, g (O.nat (Int.ofNat i)) 5] (O.nat b)) (sub64 (add64 (O.sel [g (O.nat (Int.ofNat i)) 0, g (O.nat (Int.ofNat i)) 1, g (O.nat (Int.ofNat i)) 2, g (O.nat (Int.ofNat i)) 3, g (O.nat (Int.ofNat i)) 4, g (O.nat (Int.ofNat i)) 5] (O.nat b)) (y.lng (O.nat b))) 1) w
    rw [← hq1] at hhs
    clear hq1
    obtain ⟨RV, hRV⟩ : ∃ v, rangeV (O.sel [g (O.nat (Int.ofNat i)) 0, g (O.nat (Int.ofNat i)) 1, g (O.nat (Int.ofNat i)) 2, g (O.nat (Int.ofNat i)) 3, g (O.nat (Int.ofNat i)) 4, g (O.nat (Int.ofNat i)) 5] (O.nat b)) (sub64 (add64 (O.sel [g (O.nat (Int.ofNat i)) 0, g (O.nat (Int.ofNat i)) 1, g (O.nat (Int.ofNat i)) 2, g (O.nat (Int.ofNat i)) 3, g (O.nat (Int.ofNat i)) 4, g (O.nat (Int.ofNat i)) 5] (O.nat b)) (y.lng (O.nat b))) 1) = v := ⟨_, rfl⟩
    rw [hRV] at hef hhs
    have hs : bmP Q (i + 1) = (updE EE (Q i) c2, updC EE (Q i) c2) := by rw [← hEE, ← hc2]; rfl
    obtain ⟨qi, hqi⟩ : ∃ q, Q i = q := ⟨_, rfl⟩
    rw [hqi] at hhs hs
    refine SW.seq (SW.block ?_)
    refine SW.seqRun tok hO (by cbv <;> rfl) ?_ ?_
    · exact ⟨by show (0 : Int) ≤ (i : Int); omega, by show (i : Int) < (N : Int); omega⟩
    refine SW.runD tok mixed hO (by kernel_rfl) (by cbv <;> rfl) ?_ ?_
    · exact ⟨hb6, ⟨hb0, hb6'⟩, ⟨hb0, hbn⟩⟩
    refine AnyE.callP hef (by cbv <;> rfl) (by cbv <;> rfl) ?_
    refine AnyE.run tok hO (by kernel_rfl) (by cbv <;> rfl) (by trivial) ?_
    refine AnyE.callP hhs (by cbv <;> rfl) (by cbv <;> rfl) ?_
    refine AnyE.hvS (by cbv <;> rfl) (fun K h => OpsW.mapUpd tok keyed4 boolKey (b := qi) (id := 1) (E := EE) (clock := c2) (by cbv <;> rfl) (by kernel_rfl) (by rw [hME2]; rfl) h) ?_
    obtain ⟨ME3, hME3⟩ : ∃ m, mapE AV.sb (updE EE qi c2) = m := ⟨_, rfl⟩
    obtain ⟨c3, hc3⟩ : ∃ m, updC EE qi c2 = m := ⟨_, rfl⟩
    rw [hME3, hc3]
    refine AnyE.run tok hO (by kernel_rfl) (by cbv <;> rfl) (by trivial) ?_
    refine SW.run tok hO (by cbv <;> rfl) (by trivial) ?_
    refine ⟨i + 1, by omega, hlt, ?_⟩
    rw [hs]
    simp only
    rw [hME3, hc3]
    refine WeakM.by rfl rfl (fun _ h => nomatch h) (Nat.le_refl _) (by show 2 ≤ 3; omega) ⟨⟨rfl, .inr Below.lit⟩, ⟨rfl, .inr Below.lit⟩, ⟨rfl, .inr (Below.ptr (by omega))⟩, ⟨rfl, .inr (Below.mp (by omega))⟩, ⟨rfl, .inr (Below.up (m := 0) hLb)⟩, ⟨rfl, .inr Below.lit⟩, ⟨inc_ok hO (by omega), .inr Below.lit⟩, trivial⟩
      ⟨⟨rfl, by show 1 < 2; omega, .inr ?_⟩, ⟨rfl, by show 0 < 2; omega, .inr ⟨fun a ha => Below.up (m := 0) (yardC_below y a ha), fun f h => by cases h⟩⟩, trivial⟩
    rw [← hME3]
    intro x hx
    obtain ⟨p, _, rfl⟩ := List.mem_map.1 hx
    exact ⟨Below.sb, Below.lit⟩
  have hge : i = N := by
    have : (N : Int) ≤ (i : Int) := by subst hO; simpa [std] using h
    omega
  subst hge
  refine SW.seq (SW.block ?_)
  refine SW.seq (SW.runN tok hO 1 (by cbv <;> rfl) (by trivial) ?_)
  refine OpsW.mapLook tok keyed4 boolKey false (id := 1) (E := EE) (clock := c2) (by cbv <;> rfl) (Eqv.bool rfl) (by kernel_rfl) falseZ4 (by rw [hME2]; rfl) ?_
  have hv : verdict Q i = if decide (false ∈ EE.map (·.1)) = false then 1 else if decide (true ∈ EE.map (·.1)) = false then 2 else 3 := by
    unfold verdict someB; rw [hEE]
  rw [hv]
  obtain ⟨sF, hF⟩ : ∃ s, decide (false ∈ EE.map (·.1)) = s := ⟨_, rfl⟩
  rw [hF]
  refine OpsW.run tok hO (by cbv <;> rfl) (by trivial) ?_
  refine SW.condS (by cbv <;> rfl) (fun h2 => ?_) (fun h2 => ?_)
  · have : sF = false := by subst hO; simpa [std] using h2
    subst this
    refine SW.seqRun tok hO (by cbv <;> rfl) (by trivial) ?_
    exact SW.ret ⟨_, _, rfl, rfl, Eqv.of rfl⟩
  have : sF = true := by subst hO; simpa [std] using h2
  subst this
  refine SW.seq (SW.runN tok hO 1 (by cbv <;> rfl) (by trivial) ?_)
  refine OpsW.mapLook tok keyed4 boolKey true (id := 1) (E := EE) (clock := c2) (by cbv <;> rfl) (Eqv.bool rfl) (by kernel_rfl) falseZ4 (by rw [hME2]; rfl) ?_
  obtain ⟨sT, hT⟩ : ∃ s, decide (true ∈ EE.map (·.1)) = s := ⟨_, rfl⟩
  rw [hT]
  refine OpsW.run tok hO (by cbv <;> rfl) (by trivial) ?_
  refine SW.condS (by cbv <;> rfl) (fun h3 => ?_) (fun h3 => SW.skip ?_)
  · have : sT = false := by subst hO; simpa [std] using h3
    subst this
    refine SW.seqRun tok hO (by cbv <;> rfl) (by trivial) ?_
    exact SW.ret ⟨_, _, rfl, rfl, Eqv.of rfl⟩
  have : sT = true := by subst hO; simpa [std] using h3
  subst this
  refine SW.seqRun tok hO (by cbv <;> rfl) (by trivial) ?_
  exact SW.ret ⟨_, _, rfl, rfl, Eqv.of rfl⟩
end Go.Fz
set_option linter.unusedVariables false
namespace Go.Fz
open Go.Proofs
set_option maxRecDepth 100000
def sameB (na nb : Nat) (fa fb : Nat → Int) : Bool := decide (na = nb) && !befF fa fb na nb 0 (na + 1) && !befF fb fa nb na 0 (nb + 1)
set_option maxHeartbeats 4000000 in
theorem same_ok (na nb : Nat) (ea eb : Bool) (fa fb : Nat → Int) (hna : na < 1000) (hnb : nb < 1000) : Pure Try.prog 30 [intsV na ea fa, intsV nb eb fb] (.sb (sameB na nb fa fb)) := by
  obtain ⟨O, hO⟩ : ∃ O : Ar, O = std := ⟨_, rfl⟩
  have hnot : ∀ b, O.not b = !b := fun b => by subst hO; rfl
  have e1 := before77_ok na nb ea eb fa fb hna hnb
  have e2 := before77_ok nb na eb ea fb fa hnb hna
  have hq : sameB na nb fa fb = (decide (na = nb) && !befF fa fb na nb 0 (na + 1) && !befF fb fa nb na 0 (nb + 1)) := rfl
  generalize sameB na nb fa fb = Q at hq ⊢
  generalize befF fa fb na nb 0 (na + 1) = A at e1 hq
  generalize befF fb fa nb na 0 (nb + 1) = B at e2 hq
  refine pure_of_body tok 3 Try.func30 en30 rfl ⟨intsV_below na ea fa, intsV_below nb eb fb, trivial⟩ Below.sb ?_
  refine SW.seqRun tok hO (by cbv <;> rfl) (by trivial) ?_
  refine SW.seqRun tok hO (by cbv <;> rfl) (by trivial) ?_
  refine OpsW.splitG (by cbv <;> rfl) (fun h1 => ?_) (fun h1 => ?_) <;> refine OpsW.run tok hO (by cbv <;> rfl) (by trivial) ?_
  · have hn : na = nb := by
      have : (na : Int) = (nb : Int) := by subst hO; simpa [std] using h1
      omega
    refine OpsW.callP e1 (by cbv <;> rfl) ?_
    refine OpsW.run tok hO (by cbv <;> rfl) (by trivial) ?_
    refine OpsW.splitG (by cbv <;> rfl) (fun h2 => ?_) (fun h2 => ?_) <;> refine OpsW.run tok hO (by cbv <;> rfl) (by trivial) ?_
    · have hA : A = false := by have h2 : O.not A = true := h2; rw [hnot] at h2; simpa using h2
      refine OpsW.callP e2 (by cbv <;> rfl) ?_
      refine OpsW.run tok hO (by cbv <;> rfl) (by trivial) ?_
      refine SW.ret ⟨_, _, rfl, rfl, Eqv.sb ?_⟩
      show O.not B = Q
      rw [hnot, hq, hA, decide_eq_true hn]; simp
    · have hA : A = true := by have h2 : O.not A = false := h2; rw [hnot] at h2; simpa using h2
      refine SW.ret ⟨_, _, rfl, rfl, Eqv.bool ?_⟩
      rw [hq, hA]; simp
  · have hn : na ≠ nb := fun e => by subst e; subst hO; simp [std] at h1
    refine SW.ret ⟨_, _, rfl, rfl, Eqv.bool ?_⟩
    rw [hq, decide_eq_false hn]; simp
def fourD (h : Int) (nc : Nat) (cb clo chi : Nat → Int) : YardD := ⟨5, h, 4, fun i => [2, 2, 1, 2].getD i 0, fun i => [0, 1, 2, 2].getD i 0, fun i => [1, 3, 2, 4].getD i 0, nc, cb, clo, chi⟩
def z0 : Nat → Int := fun _ => 0
theorem four_beds (h : Int) (nc : Nat) (cb clo chi : Nat → Int) (G : Nat → Nat → AV) (hG : ∀ i k, i < 4 → k < 3 → G i k = bedC (fourD h nc cb clo chi) i k) : Eqv (.isl 4 3 true G) (bedsV (fourD h nc cb clo chi)) :=
  Eqv.trans Eqv.islX (Eqv.isl rfl fun i k hi hk => Eqv.of (hG i k hi hk))
set_option maxHeartbeats 4000000 in
theorem four_ok (nc : Nat) (ex : Bool) (cb clo chi : Nat → Int) : Pure Try.prog 57 [.isl nc 3 ex (clmC (fourD 2 nc cb clo chi))] (yardV (fourD 2 nc cb clo chi)) := by
  obtain ⟨O, hO⟩ : ∃ O : Ar, O = std := ⟨_, rfl⟩
  have hcb : Below 0 (AV.isl nc 3 ex (clmC (fourD 2 nc cb clo chi))) := Below.isl fun i k _ _ => clmC_below _ i k
  have hyb := yardV_below (fourD 2 nc cb clo chi)
  have hfin : ∀ G : Nat → Nat → AV, (∀ i k, i < 4 → k < 3 → G i k = bedC (fourD 2 nc cb clo chi) i k) → Eqv (.agg [iV 5, iV 2, .isl 4 3 true G, .isl nc 3 ex (clmC (fourD 2 nc cb clo chi))]) (yardV (fourD 2 nc cb clo chi)) := fun G hG => Eqv.agg (.cons (Eqv.refl _) (.cons (Eqv.refl _) (.cons (four_beds 2 nc cb clo chi G hG) (.cons (Eqv.trans (by cases ex with
    | true => exact Eqv.islX
    | false => exact Eqv.refl _) (Eqv.refl _)) .nil))))
  obtain ⟨cG, hcG⟩ : ∃ c, clmC (fourD 2 nc cb clo chi) = c := ⟨_, rfl⟩
  rw [hcG] at hcb hfin ⊢
  refine pure_of_body tok 4 Try.func57 en57 rfl ⟨hcb, trivial⟩ hyb ?_
  refine SW.seqRun tok hO (by cbv <;> rfl) (by trivial) ?_
  refine SW.seqRun tok hO (by cbv <;> rfl) (by trivial) ?_
  refine OpsW.callP (between_ok 0 1) (by cbv <;> rfl) ?_
  refine OpsW.run tok hO (by cbv <;> rfl) (by trivial) ?_
  refine OpsW.callP (between_ok 1 3) (by cbv <;> rfl) ?_
  refine OpsW.run tok hO (by cbv <;> rfl) (by trivial) ?_
  refine OpsW.callP (between_ok 2 2) (by cbv <;> rfl) ?_
  refine OpsW.run tok hO (by cbv <;> rfl) (by trivial) ?_
  refine OpsW.callP (between_ok 2 4) (by cbv <;> rfl) ?_
  refine OpsW.run tok hO (by cbv <;> rfl) (by trivial) ?_
  refine SW.ret ⟨_, _, rfl, rfl, ?_⟩
  refine hfin _ fun i k hi hk => ?_
  rcases (by omega : i = 0 ∨ i = 1 ∨ i = 2 ∨ i = 3) with rfl | rfl | rfl | rfl <;> rcases (by omega : k = 0 ∨ k = 1 ∨ k = 2) with rfl | rfl | rfl <;> rfl
end Go.Fz
set_option linter.unusedVariables false
namespace Go.Fz
open Go.Proofs
set_option maxRecDepth 100000
def four0 : YardD := fourD 2 0 z0 z0 z0
def hands1 : YardD := fourD 1 0 z0 z0 z0
def fourC : YardD := fourD 2 2 (fun i => [1, 0].getD i 0) (fun i => [1, 0].getD i 0) (fun i => [2, 0].getD i 0)
theorem four0_ok : Pure Try.prog 57 [nl3] (yardV four0) := (four_ok 0 false z0 z0 z0).eqv (args := [nl3]) (.cons Eqv.nil .nil)
theorem fourC_ok : Pure Try.prog 57 [clmsV fourC] (yardV fourC) := four_ok 2 false _ _ _
set_option maxHeartbeats 4000000 in
theorem hands_ok (h : Int) : Pure Try.prog 58 [iV h] (yardV (fourD h 0 z0 z0 z0)) := by
  obtain ⟨O, hO⟩ : ∃ O : Ar, O = std := ⟨_, rfl⟩
  have e1 := four0_ok
  have hyb := yardV_below (fourD h 0 z0 z0 z0)
  have hfin : Eqv (.agg [iV h, iV 2, bedsV four0, clmsV four0]) (.agg [iV h, iV 2, bedsV four0, clmsV four0]) := Eqv.refl _
  refine pure_of_body tok 4 Try.func58 en58 rfl ⟨Below.lit, trivial⟩ hyb ?_
  change Pure Try.prog 57 [nl3] (.agg [iV 5, iV 2, bedsV four0, clmsV four0]) at e1
  show SW _ _ _ (retQ _ _ (fun v st' => Eqv (frz st'.h (fun _ => true) 4 v) (.agg [iV 5, iV h, bedsV four0, clmsV four0]))) _ _
  unfold bedsV clmsV at e1 ⊢
  obtain ⟨bG, hbG⟩ : ∃ c, bedC four0 = c := ⟨_, rfl⟩
  obtain ⟨cG, hcG⟩ : ∃ c, clmC four0 = c := ⟨_, rfl⟩
  rw [hbG, hcG] at e1 ⊢
  obtain ⟨nb, hnb⟩ : ∃ n, four0.nb = n := ⟨_, rfl⟩
  obtain ⟨nc, hnc⟩ : ∃ n, four0.nc = n := ⟨_, rfl⟩
  rw [hnb, hnc] at e1 ⊢
  refine SW.seqRun tok hO (by cbv <;> rfl) (by trivial) ?_
  refine SW.seqRun tok hO (by cbv <;> rfl) (by trivial) ?_
  refine OpsW.callP e1 (by cbv <;> rfl) ?_
  refine OpsW.run tok hO (by cbv <;> rfl) (by trivial) ?_
  refine SW.seqRun tok hO (by cbv <;> rfl) (by trivial) ?_
  refine SW.seqRun tok hO (by cbv <;> rfl) (by trivial) ?_
  refine SW.ret ⟨_, _, rfl, rfl, ?_⟩
  exact Eqv.of rfl
set_option maxHeartbeats 4000000 in
theorem claims_ok : Pure Try.prog 59 [] (clmsV fourC) := by
  obtain ⟨O, hO⟩ : ∃ O : Ar, O = std := ⟨_, rfl⟩
  refine pure_of_body tok 4 Try.func59 en59 rfl trivial (clmsV_below _) ?_
  refine SW.seqRun tok hO (by cbv <;> rfl) (by trivial) ?_
  refine SW.seqRun tok hO (by cbv <;> rfl) (by trivial) ?_
  refine OpsW.callP (between_ok 1 2) (by cbv <;> rfl) ?_
  refine OpsW.run tok hO (by cbv <;> rfl) (by trivial) ?_
  refine OpsW.callP (between_ok 0 0) (by cbv <;> rfl) ?_
  refine OpsW.run tok hO (by cbv <;> rfl) (by trivial) ?_
  refine SW.ret ⟨_, _, rfl, rfl, ?_⟩
  refine Eqv.trans (b := .isl 2 3 true (clmC fourC)) (Eqv.isl rfl fun i k hi hk => Eqv.of ?_) Eqv.islX
  rcases (by omega : i = 0 ∨ i = 1) with rfl | rfl <;> rcases (by omega : k = 0 ∨ k = 1 ∨ k = 2) with rfl | rfl | rfl <;> rfl
theorem aw_e0 : four0.ownE (four0.hasB 1) = 0 ∧ four0.wkL 1 = [3] ∧ four0.ownE (four0.hasB 3) = 0 ∧ four0.wkL 3 = [3, 4] := by decide +kernel
theorem aw_show : four0.ownE true = 0 ∧ four0.firstS true 1 = 3 ∧ four0.firstS true 2 = 2 := by decide +kernel
theorem aw_emp : four0.ownE (four0.emR 0 1) = 0 ∧ four0.emV 0 1 = 1 ∧ four0.ownE (four0.emR 3 2) = 0 ∧ four0.emV 3 2 = 2 := by decide +kernel
theorem aw_few : four0.fewN = (2, 0) := by decide +kernel
theorem aw_prf : hands1.check = 0 ∧ (risL hands1.nb).find? (fun l => !hands1.canL l) = some [1, 2, 3] := by decide +kernel
theorem aw_lve : fourC.anyE true = 0 ∧ (risL fourC.nc).find? (fun l => fourC.lvB fourC.allS l) = some [0] := by decide +kernel
end Go.Fz
set_option linter.unusedVariables false
namespace Go.Fz
open Go.Proofs
set_option maxRecDepth 100000
theorem aw_w1 : Pure Try.prog 27 [yardV four0, iV 1] (.tup [zV [3], iV 0]) := by
  have h := weeks_ok four0 (by decide) (by decide) 1
  rw [aw_e0.1] at h
  unfold YardD.wkV at h
  rw [if_pos aw_e0.1, aw_e0.2.1] at h
  exact h
theorem aw_w3 : Pure Try.prog 27 [yardV four0, iV 3] (.tup [zV [3, 4], iV 0]) := by
  have h := weeks_ok four0 (by decide) (by decide) 3
  rw [aw_e0.2.2.1] at h
  unfold YardD.wkV at h
  rw [if_pos aw_e0.2.2.1, aw_e0.2.2.2] at h
  exact h
theorem aw_s : Pure Try.prog 19 [yardV four0] (.tup [intsV 4 false (four0.firstS true), iV 0]) := by
  have h := show_ok four0 (by decide) (by decide)
  rw [aw_show.1] at h
  unfold YardD.showV at h
  rw [if_pos aw_show.1] at h
  exact h
theorem aw_m1 : Pure Try.prog 28 [yardV four0, iV 0, iV 1] (.tup [iV 1, iV 0]) := by
  have h := empty_ok four0 (by decide) (by decide) 0 1
  rw [aw_emp.1, aw_emp.2.1] at h
  exact h
theorem aw_m2 : Pure Try.prog 28 [yardV four0, iV 3, iV 2] (.tup [iV 2, iV 0]) := by
  have h := empty_ok four0 (by decide) (by decide) 3 2
  rw [aw_emp.2.2.1, aw_emp.2.2.2] at h
  exact h
theorem aw_f : Pure Try.prog 33 [yardV four0] (.tup [iV 2, iV 0]) := by
  have h := fewest_ok four0 (by decide) (by decide)
  rw [aw_few] at h
  exact h
theorem aw_p : Pure Try.prog 34 [yardV hands1] (.tup [lsV [1, 2, 3], iV 0]) := by
  have h := proof_ok hands1 (by decide) (by decide)
  unfold YardD.prfV at h
  rw [if_pos aw_prf.1, aw_prf.2] at h
  exact h
theorem aw_l : Pure Try.prog 41 [yardV fourC] (.tup [lsV [0], iV 0]) := by
  have h := leave_ok fourC (by decide) (by decide)
  rw [aw_lve.1] at h
  unfold YardD.lveV at h
  rw [if_pos aw_lve.1, aw_lve.2] at h
  exact h
theorem aw_q : Pure Try.prog 35 [yardV hands1, lsV [1, 2, 3]] (.lit (.bool true)) :=
  (prove_ok hands1 (by decide) (by decide) 3 false (fun j => (([1, 2, 3].getD j 0 : Nat) : Int)) (by omega)).res (Eqv.lit (by decide +kernel))
theorem aw_1 : Pure Try.prog 30 [zV [3], intsV 1 true (fun j => [3].getD j 0)] (.lit (.bool true)) := (same_ok 1 1 false true _ _ (by omega) (by omega)).res (Eqv.lit (by decide +kernel))
theorem aw_2 : Pure Try.prog 30 [zV [3, 4], intsV 2 true (fun j => [3, 4].getD j 0)] (.lit (.bool true)) := (same_ok 2 2 false true _ _ (by omega) (by omega)).res (Eqv.lit (by decide +kernel))
theorem aw_3 : Pure Try.prog 30 [lsV [1, 2, 3], intsV 3 true (fun j => [1, 2, 3].getD j 0)] (.lit (.bool true)) := (same_ok 3 3 false true _ _ (by omega) (by omega)).res (Eqv.lit (by decide +kernel))
theorem aw_4 : Pure Try.prog 30 [lsV [0], intsV 1 true (fun j => [0].getD j 0)] (.lit (.bool true)) := (same_ok 1 1 false true _ _ (by omega) (by omega)).res (Eqv.lit (by decide +kernel))
set_option maxHeartbeats 16000000 in
theorem awake_ok : Pure Try.prog 18 [] (.lit (.bool true)) := by
  obtain ⟨O, hO⟩ : ∃ O : Ar, O = std := ⟨_, rfl⟩
  have e57 := four0_ok
  have e57c := fourC_ok
  have e59 := claims_ok
  have e58 : Pure Try.prog 58 [iV 1] (yardV hands1) := hands_ok 1
  have w1 := aw_w1
  have w3 := aw_w3
  have sh := aw_s
  have m1 := aw_m1
  have m2 := aw_m2
  have ff := aw_f
  have pp := aw_p
  have ll := aw_l
  have qq := aw_q
  have s1 := aw_1
  have s2 := aw_2
  have s3 := aw_3
  have s4 := aw_4
  obtain ⟨Y0, hY0⟩ : ∃ v, yardV four0 = v := ⟨_, rfl⟩
  obtain ⟨Y1, hY1⟩ : ∃ v, yardV hands1 = v := ⟨_, rfl⟩
  obtain ⟨YC, hYC⟩ : ∃ v, yardV fourC = v := ⟨_, rfl⟩
  obtain ⟨CC, hCC⟩ : ∃ v, clmsV fourC = v := ⟨_, rfl⟩
  rw [hY0] at e57 w1 w3 sh m1 m2 ff
  rw [hY1] at e58 pp qq
  rw [hYC] at e57c ll
  rw [hCC] at e57c e59
  obtain ⟨L1, hL1⟩ : ∃ f, zV [3] = intsV 1 false f := ⟨_, rfl⟩
  obtain ⟨L2, hL2⟩ : ∃ f, zV [3, 4] = intsV 2 false f := ⟨_, rfl⟩
  obtain ⟨L3, hL3⟩ : ∃ f, lsV [1, 2, 3] = intsV 3 false f := ⟨_, rfl⟩
  obtain ⟨L4, hL4⟩ : ∃ f, lsV [0] = intsV 1 false f := ⟨_, rfl⟩
  rw [hL1] at w1 s1
  rw [hL2] at w3 s2
  rw [hL3] at pp qq s3
  rw [hL4] at ll s4
  have h1 : O.nat 1 = 1 := by subst hO; rfl
  have h2 : O.nat 2 = 2 := by subst hO; rfl
  obtain ⟨FS, hFS⟩ : ∃ f, four0.firstS true = f := ⟨_, rfl⟩
  have f1 : FS (O.nat 1) = 3 := by rw [h1, ← hFS]; exact aw_show.2.1
  have f2 : FS (O.nat 2) = 2 := by rw [h2, ← hFS]; exact aw_show.2.2
  rw [hFS] at sh
  clear h1 h2 hFS hL1 hL2 hL3 hL4 hY0 hY1 hYC hCC
  refine pure_of_body tok 3 Try.func18 en18 rfl trivial Below.lit ?_
  refine SW.seqRun tok hO (by cbv <;> rfl) (by trivial) ?_
  refine SW.seqRun tok hO (by cbv <;> rfl) (by trivial) ?_
  refine OpsW.callP e57 (by cbv <;> rfl) ?_
  refine OpsW.run tok hO (by cbv <;> rfl) (by trivial) ?_
  refine OpsW.callP w1 (by cbv <;> rfl) ?_
  refine OpsW.run tok hO (by cbv <;> rfl) (by trivial) ?_
  refine SW.seqRun tok hO (by cbv <;> rfl) (by trivial) ?_
  refine OpsW.callP e57 (by cbv <;> rfl) ?_
  refine OpsW.run tok hO (by cbv <;> rfl) (by trivial) ?_
  refine OpsW.callP w3 (by cbv <;> rfl) ?_
  refine OpsW.run tok hO (by cbv <;> rfl) (by trivial) ?_
  refine SW.seqRun tok hO (by cbv <;> rfl) (by trivial) ?_
  refine OpsW.callP e57 (by cbv <;> rfl) ?_
  refine OpsW.run tok hO (by cbv <;> rfl) (by trivial) ?_
  refine OpsW.callP sh (by cbv <;> rfl) ?_
  refine OpsW.run tok hO (by cbv <;> rfl) (by trivial) ?_
  refine SW.seqRun tok hO (by cbv <;> rfl) (by trivial) ?_
  refine OpsW.callP e57 (by cbv <;> rfl) ?_
  refine OpsW.run tok hO (by cbv <;> rfl) (by trivial) ?_
  refine OpsW.callP m1 (by cbv <;> rfl) ?_
  refine OpsW.run tok hO (by cbv <;> rfl) (by trivial) ?_
  refine SW.seqRun tok hO (by cbv <;> rfl) (by trivial) ?_
  refine OpsW.callP e57 (by cbv <;> rfl) ?_
  refine OpsW.run tok hO (by cbv <;> rfl) (by trivial) ?_
  refine OpsW.callP m2 (by cbv <;> rfl) ?_
  refine OpsW.run tok hO (by cbv <;> rfl) (by trivial) ?_
  refine SW.seqRun tok hO (by cbv <;> rfl) (by trivial) ?_
  refine OpsW.callP e57 (by cbv <;> rfl) ?_
  refine OpsW.run tok hO (by cbv <;> rfl) (by trivial) ?_
  refine OpsW.callP ff (by cbv <;> rfl) ?_
  refine OpsW.run tok hO (by cbv <;> rfl) (by trivial) ?_
  refine SW.seqRun tok hO (by cbv <;> rfl) (by trivial) ?_
  refine OpsW.callP e58 (by cbv <;> rfl) ?_
  refine OpsW.run tok hO (by cbv <;> rfl) (by trivial) ?_
  refine OpsW.callP pp (by cbv <;> rfl) ?_
  refine OpsW.run tok hO (by cbv <;> rfl) (by trivial) ?_
  refine SW.seqRun tok hO (by cbv <;> rfl) (by trivial) ?_
  refine OpsW.callP e59 (by cbv <;> rfl) ?_
  refine OpsW.run tok hO (by cbv <;> rfl) (by trivial) ?_
  refine OpsW.callP e57c (by cbv <;> rfl) ?_
  refine OpsW.run tok hO (by cbv <;> rfl) (by trivial) ?_
  refine OpsW.callP ll (by cbv <;> rfl) ?_
  refine OpsW.run tok hO (by cbv <;> rfl) (by trivial) ?_
  refine SW.seqRun tok hO (by cbv <;> rfl) (by trivial) ?_
  refine OpsW.splitG (by cbv <;> rfl) (fun h1 => ?_) (fun h1 => ?_)
  rotate_left
  · exfalso; subst hO; simp [std] at h1
  clear h1
  refine OpsW.run tok hO (by cbv <;> rfl) (by trivial) ?_
  refine OpsW.callS en30 (call_frz (args := [intsV 1 false L1, .sl 0 0 1 1 true]) (fun _ => true) 3 s1 (by rfl) (.cons (Eqv.isl rfl fun i k hi hk => Eqv.refl _) (.cons (by
      refine Eqv.isl rfl fun i k hi hk => Eqv.of ?_
      obtain rfl : k = 0 := by omega
      obtain rfl : i = 0 := by omega
      rfl) .nil))) (by cbv <;> rfl) fun r st' hk => ?_
  obtain ⟨rfl, rfl⟩ := hk
  refine OpsW.run tok hO (by cbv <;> rfl) (by trivial) ?_
  refine OpsW.splitG (by cbv <;> rfl) (fun h1 => ?_) (fun h1 => ?_)
  rotate_left
  · exfalso; subst hO; simp [std] at h1
  clear h1
  refine OpsW.run tok hO (by cbv <;> rfl) (by trivial) ?_
  refine OpsW.callS en30 (call_frz (args := [intsV 2 false L2, .sl 1 0 2 1 true]) (fun _ => true) 3 s2 (by rfl) (.cons (Eqv.isl rfl fun i k hi hk => Eqv.refl _) (.cons (by
      refine Eqv.isl rfl fun i k hi hk => Eqv.of ?_
      obtain rfl : k = 0 := by omega
      rcases (by omega : i = 0 ∨ i = 1) with rfl | rfl <;> rfl) .nil))) (by cbv <;> rfl) fun r st' hk => ?_
  obtain ⟨rfl, rfl⟩ := hk
  refine OpsW.run tok hO (by cbv <;> rfl) (by trivial) ?_
  refine OpsW.splitG (by cbv <;> rfl) (fun h1 => ?_) (fun h1 => ?_)
  rotate_left
  · exfalso; subst hO; simp [std] at h1
  clear h1
  refine OpsW.run tok hO (by cbv <;> rfl) (by trivial) ?_
  refine OpsW.splitG (by cbv <;> rfl) (fun h1 => ?_) (fun h1 => ?_)
  rotate_left
  · exfalso; subst hO; simp [std] at h1
  clear h1
  refine OpsW.run tok hO (by cbv <;> rfl) ?_ ?_
  · exact ⟨by omega, by omega⟩
  refine OpsW.splitG (by cbv <;> rfl) (fun h1 => ?_) (fun h1 => ?_)
  rotate_left
  · exfalso; have h3 : O.cmp .eql (FS (O.nat 1)) 3 = false := h1; rw [f1] at h3; subst hO; simp [std] at h3
  clear h1
  refine OpsW.run tok hO (by cbv <;> rfl) ?_ ?_
  · exact ⟨by omega, by omega⟩
  refine OpsW.splitG (by cbv <;> rfl) (fun h1 => ?_) (fun h1 => ?_)
  rotate_left
  · exfalso; have h3 : O.cmp .eql (FS (O.nat 2)) 2 = false := h1; rw [f2] at h3; subst hO; simp [std] at h3
  clear h1
  refine OpsW.run tok hO (by cbv <;> rfl) (by trivial) ?_
  refine OpsW.splitG (by cbv <;> rfl) (fun h1 => ?_) (fun h1 => ?_)
  rotate_left
  · exfalso; subst hO; simp [std] at h1
  clear h1
  refine OpsW.run tok hO (by cbv <;> rfl) (by trivial) ?_
  refine OpsW.splitG (by cbv <;> rfl) (fun h1 => ?_) (fun h1 => ?_)
  rotate_left
  · exfalso; subst hO; simp [std] at h1
  clear h1
  refine OpsW.run tok hO (by cbv <;> rfl) (by trivial) ?_
  refine OpsW.splitG (by cbv <;> rfl) (fun h1 => ?_) (fun h1 => ?_)
  rotate_left
  · exfalso; subst hO; simp [std] at h1
  clear h1
  refine OpsW.run tok hO (by cbv <;> rfl) (by trivial) ?_
  refine OpsW.splitG (by cbv <;> rfl) (fun h1 => ?_) (fun h1 => ?_)
  rotate_left
  · exfalso; subst hO; simp [std] at h1
  clear h1
  refine OpsW.run tok hO (by cbv <;> rfl) (by trivial) ?_
  refine OpsW.splitG (by cbv <;> rfl) (fun h1 => ?_) (fun h1 => ?_)
  rotate_left
  · exfalso; subst hO; simp [std] at h1
  clear h1
  refine OpsW.run tok hO (by cbv <;> rfl) (by trivial) ?_
  refine OpsW.splitG (by cbv <;> rfl) (fun h1 => ?_) (fun h1 => ?_)
  rotate_left
  · exfalso; subst hO; simp [std] at h1
  clear h1
  refine OpsW.run tok hO (by cbv <;> rfl) (by trivial) ?_
  refine OpsW.splitG (by cbv <;> rfl) (fun h1 => ?_) (fun h1 => ?_)
  rotate_left
  · exfalso; subst hO; simp [std] at h1
  clear h1
  refine OpsW.run tok hO (by cbv <;> rfl) (by trivial) ?_
  refine OpsW.callS en30 (call_frz (args := [intsV 3 false L3, .sl 2 0 3 1 true]) (fun _ => true) 3 s3 (by rfl) (.cons (Eqv.isl rfl fun i k hi hk => Eqv.refl _) (.cons (by
      refine Eqv.isl rfl fun i k hi hk => Eqv.of ?_
      obtain rfl : k = 0 := by omega
      rcases (by omega : i = 0 ∨ i = 1 ∨ i = 2) with rfl | rfl | rfl <;> rfl) .nil))) (by cbv <;> rfl) fun r st' hk => ?_
  obtain ⟨rfl, rfl⟩ := hk
  refine OpsW.run tok hO (by cbv <;> rfl) (by trivial) ?_
  refine OpsW.callP e58 (by cbv <;> rfl) ?_
  refine OpsW.run tok hO (by cbv <;> rfl) (by trivial) ?_
  refine OpsW.callP qq (by cbv <;> rfl) ?_
  refine OpsW.run tok hO (by cbv <;> rfl) (by trivial) ?_
  refine OpsW.splitG (by cbv <;> rfl) (fun h1 => ?_) (fun h1 => ?_)
  rotate_left
  · exfalso; subst hO; simp [std] at h1
  clear h1
  refine OpsW.run tok hO (by cbv <;> rfl) (by trivial) ?_
  refine OpsW.callS en30 (call_frz (args := [intsV 1 false L4, .sl 3 0 1 1 true]) (fun _ => true) 3 s4 (by rfl) (.cons (Eqv.isl rfl fun i k hi hk => Eqv.refl _) (.cons (by
      refine Eqv.isl rfl fun i k hi hk => Eqv.of ?_
      obtain rfl : k = 0 := by omega
      obtain rfl : i = 0 := by omega
      rfl) .nil))) (by cbv <;> rfl) fun r st' hk => ?_
  obtain ⟨rfl, rfl⟩ := hk
  refine OpsW.run tok hO (by cbv <;> rfl) (by trivial) ?_
  exact SW.ret ⟨_, _, rfl, rfl, Eqv.of rfl⟩
end Go.Fz
