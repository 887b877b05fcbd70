/-
  Layer 1: the truth with a number, and what BedLower asks. Own work of the verifier of watercress.
-/
import Derived.Test.YtgfahkehkpjabaaFzj
namespace Go.Fz
open Go.Proofs
set_option maxRecDepth 100000

def quo64 (a b : Int) : Int := wrp .i64 (a.tdiv b)
def FarmD.qN (f : FarmD) (N : Int) : Nat → Int
  | 0 => N
  | s + 1 => quo64 (f.qN N s) (size64 (f.slo s) (f.shi s))
def FarmD.nthN (f : FarmD) (N : Int) (s : Nat) : Int := add64 (f.slo s) ((f.qN N s).tmod (size64 (f.slo s) (f.shi s)))

set_option maxHeartbeats 4000000 in
theorem nth_ok (f : FarmD) (g : f.Good) (N : Int) : Pure Try.prog 60 [farmV f, iV N] (intsV f.ns false (f.nthN N)) := by
  obtain ⟨O, hO⟩ : ∃ O : Ar, O = std := ⟨_, rfl⟩
  have hnat : ∀ i : Nat, O.nat (Int.ofNat i) = i := fun i => by subst hO; rfl
  have hns := g.ns
  refine pure_of_body tok 3 Try.func60 en60 rfl ⟨farmV_below f, iV_below, trivial⟩ (intsV_below _ _ _) ?_
  refine SW.seqRun tok hO (by cbv <;> rfl) (by trivial) ?_
  refine SW.seqRun tok hO (by cbv <;> rfl) (by trivial) ?_
  refine SW.seq ?_
  refine SW.seqRun tok hO (by cbv <;> rfl) (by trivial) ?_
  refine (SW.block (SW.loopR (fun i : Nat => ⟨⟨36, getT [(1, iV (f.qN N i)), (2, .ptr 0 0), (5, slG 1 1 i), (6, iV i)]⟩, []⟩) (fun i => ⟨[(0, .cells none false [springsV f, bedsV f, looksV f])] ++ objG 1 1 (intC (f.nthN N)) i, 2⟩) (fun i => f.ns - i) (fun i => i ≤ f.ns) 0 (Nat.zero_le _) (ren1 1 1) ?_ fun i hi => ?_))
  · exact WeakR.up rfl rfl (by simp) (Nat.le_refl _) (.inl rfl) (by show 1 ≤ 2; omega) ⟨RenV.closed Below.lit, RenV.ptr (by omega), RenV.closed Below.lit, RenV.closed Below.lit, trivial⟩ ⟨⟨by omega, _, rfl, .cells (RenVs.closed (farmC_below f)), .inr rfl⟩, trivial⟩ (fun p hp => by cases hp)
  generalize hQ : f.qN N i = q
  cases i with
  | zero =>
    refine SW.seq ?_
    refine SW.seqRun tok hO (by cbv <;> rfl) (by trivial) ?_
    refine SW.condS (by cbv <;> rfl) (fun h => SW.skip ?_) (fun h => SW.exit ?_)
    · have hlt : 0 < f.ns := by subst hO; simpa [std] using h
      have h0 : (0 : Int) ≤ Int.ofNat 0 := Int.natCast_nonneg 0
      obtain ⟨_, hs0, hs1, hs2⟩ := g.spring 0 hlt
      have hsz := size64_in hs0 hs1 hs2
      have hne : size64 (f.slo 0) (f.shi 0) ≠ 0 := by rw [hsz]; omega
      have call := count_ok (f.slo 0) (f.shi 0)
      have e1 : quo64 q (size64 (f.slo 0) (f.shi 0)) = f.qN N 1 := by rw [← hQ]; rfl
      have e2 : add64 (f.slo 0) (q.tmod (size64 (f.slo 0) (f.shi 0))) = f.nthN N 0 := by rw [← hQ]; rfl
      generalize size64 (f.slo 0) (f.shi 0) = z at call hne e1 e2
      rw [← hnat 0] at call
      refine SW.seq (SW.block ?_)
      refine SW.seqRun tok hO (by cbv <;> rfl) ?_ ?_
      · exact ⟨h0, Int.ofNat_lt.2 hlt⟩
      refine SW.runD tok mixed hO (by rfl) (by cbv <;> rfl) (by trivial) ?_
      refine AnyE.callP call (by cbv <;> rfl) (by cbv <;> rfl) ?_
      refine AnyE.run tok hO (by rfl) (by cbv <;> rfl) ?_ ?_
      · exact hne
      refine AnyE.effK tok hO (by cbv <;> rfl) (by cbv <;> rfl) (by trivial) ?_ ?_
      · repeat (first | exact trivial | refine ⟨by (cbv <;> rfl), ?_⟩)
      refine AnyE.appNilK tok (by cbv <;> rfl) (by cbv <;> rfl) (by rfl) (by kernel_rfl) (by rfl) (by rfl) ?_ ?_
      · repeat (first | exact trivial | refine ⟨by (cbv <;> rfl), ?_⟩)
      refine AnyE.run tok hO (by rfl) (by cbv <;> rfl) (by trivial) ?_
      refine AnyE.callP call (by cbv <;> rfl) (by cbv <;> rfl) ?_
      refine AnyE.run tok hO (by rfl) (by cbv <;> rfl) ?_ ?_
      · exact hne
      refine AnyE.eff tok hO (by cbv <;> rfl) (by cbv <;> rfl) (by trivial) ?_
      refine AnyE.done (by rfl) ?_
      refine SW.run tok hO (by cbv <;> rfl) (by trivial) ?_
      refine ⟨1, by omega, by omega, ren1 1 4, ?_⟩
      have e3 : O.bin .quo .i64 q z = f.qN N 1 := by rw [← e1]; subst hO; rfl
      have e4 : O.bin .add .i64 (f.slo (O.nat (Int.ofNat 0))) (O.bin .rem .i64 q z) = f.nthN N 0 := by rw [← e2, hnat]; subst hO; rfl
      refine WeakR.up rfl rfl (by simp) (Nat.le_refl _) (.inr (by omega)) (by show 1 ≤ 2; omega) ⟨?_, RenV.ptr (by omega), RenV.sl (by omega), RenV.inc hO (by omega), trivial⟩ ⟨⟨by omega, _, rfl, .cells (RenVs.closed (farmC_below f)), .inr rfl⟩, trivial⟩ (fun p hp => ?_)
      · show RenV _ _ (iV (f.qN N 1)) (iV (O.bin .quo .i64 q z))
        rw [e3]; exact RenV.closed Below.lit
      obtain rfl := objG_mem hp
      refine ⟨by omega, _, rfl, .cells (RenVs.of_eq ?_ (flatG_below (fun i k => Below.lit) 1)), .inl rfl⟩
      show [iV (O.bin .add .i64 (f.slo (O.nat (Int.ofNat 0))) (O.bin .rem .i64 q z))] = [iV (f.nthN N 0)]
      rw [e4]
    · have hz : f.ns = 0 := by
        have : f.ns ≤ 0 := by subst hO; simpa [std] using h
        omega
      refine SW.seqRun tok hO (by cbv <;> rfl) (by trivial) ?_
      refine SW.ret ⟨_, _, rfl, rfl, ?_⟩
      rw [hz]; exact Eqv.nil
  | succ i =>
    obtain ⟨G, hG⟩ : ∃ G, G = flatG 1 (intC (f.nthN N)) (i + 1) := ⟨_, rfl⟩
    have hGo : objG 1 1 (intC (f.nthN N)) (i + 1) = [(1, .cells none false G)] := by rw [hG]; rfl
    show SW _ _ _ _ ⟨⟨36, getT [(1, iV q), (2, .ptr 0 0), (5, .sl 1 0 (i + 1) 1 false), (6, iV (i + 1 : Nat))]⟩, []⟩ ⟨[(0, .cells none false [springsV f, bedsV f, looksV f])] ++ objG 1 1 (intC (f.nthN N)) (i + 1), 2⟩
    rw [hGo]
    refine SW.seq ?_
    refine SW.seqRun tok hO (by cbv <;> rfl) (by trivial) ?_
    refine SW.condS (by cbv <;> rfl) (fun h => SW.skip ?_) (fun h => SW.exit ?_)
    · have hlt : i + 1 < f.ns := by
        have : ((i + 1 : Nat) : Int) < (f.ns : Int) := by subst hO; simpa [std] using h
        omega
      have h0 : (0 : Int) ≤ Int.ofNat (i + 1) := Int.natCast_nonneg (i + 1)
      obtain ⟨_, hs0, hs1, hs2⟩ := g.spring (i + 1) hlt
      have hsz := size64_in hs0 hs1 hs2
      have hne : size64 (f.slo (i + 1)) (f.shi (i + 1)) ≠ 0 := by rw [hsz]; omega
      have call := count_ok (f.slo (i + 1)) (f.shi (i + 1))
      have e1 : quo64 q (size64 (f.slo (i + 1)) (f.shi (i + 1))) = f.qN N (i + 1 + 1) := by rw [← hQ]; rfl
      have e2 : add64 (f.slo (i + 1)) (q.tmod (size64 (f.slo (i + 1)) (f.shi (i + 1)))) = f.nthN N (i + 1) := by rw [← hQ]; rfl
      generalize size64 (f.slo (i + 1)) (f.shi (i + 1)) = z at call hne e1 e2
      rw [← hnat (i + 1)] at call
      refine SW.seq (SW.block ?_)
      refine SW.seqRun tok hO (by cbv <;> rfl) ?_ ?_
      · exact ⟨h0, Int.ofNat_lt.2 hlt⟩
      refine SW.runD tok mixed hO (by rfl) (by cbv <;> rfl) (by trivial) ?_
      refine AnyE.callP call (by cbv <;> rfl) (by cbv <;> rfl) ?_
      refine AnyE.run tok hO (by rfl) (by cbv <;> rfl) ?_ ?_
      · exact hne
      refine AnyE.effK tok hO (by cbv <;> rfl) (by cbv <;> rfl) (by trivial) ?_ ?_
      · repeat (first | exact trivial | refine ⟨by (cbv <;> rfl), ?_⟩)
      refine AnyE.appOneK (g := intC (f.nthN N)) tok (by cbv <;> rfl) (by cbv <;> rfl) (by rfl) (by rfl) hG (by kernel_rfl) (by rfl) (by rfl) (by omega) fun G' hG' => ⟨?_, ?_⟩
      · repeat (first | exact trivial | refine ⟨by (cbv <;> rfl), ?_⟩)
      refine AnyE.run tok hO (by rfl) (by cbv <;> rfl) (by trivial) ?_
      refine AnyE.callP call (by cbv <;> rfl) (by cbv <;> rfl) ?_
      refine AnyE.run tok hO (by rfl) (by cbv <;> rfl) ?_ ?_
      · exact hne
      refine AnyE.eff tok hO (by cbv <;> rfl) (by cbv <;> rfl) (by trivial) ?_
      refine AnyE.done (by rfl) ?_
      refine SW.run tok hO (by cbv <;> rfl) (by trivial) ?_
      refine ⟨i + 1 + 1, by omega, by omega, ren1 1 4, ?_⟩
      have e3 : O.bin .quo .i64 q z = f.qN N (i + 1 + 1) := by rw [← e1]; subst hO; rfl
      have e4 : O.bin .add .i64 (f.slo (O.nat (Int.ofNat (i + 1)))) (O.bin .rem .i64 q z) = f.nthN N (i + 1) := by rw [← e2, hnat]; subst hO; rfl
      refine WeakR.up rfl rfl (by simp) (Nat.le_refl _) (.inr (by omega)) (by show 1 ≤ 2; omega) ⟨?_, RenV.ptr (by omega), RenV.sl (by omega), RenV.inc hO (by omega), trivial⟩ ⟨⟨by omega, _, rfl, .cells (RenVs.closed (farmC_below f)), .inr rfl⟩, trivial⟩ (fun p hp => ?_)
      · show RenV _ _ (iV (f.qN N (i + 1 + 1))) (iV (O.bin .quo .i64 q z))
        rw [e3]; exact RenV.closed Below.lit
      obtain rfl := objG_mem hp
      refine ⟨by omega, _, rfl, .cells (RenVs.of_eq (hG'.trans ?_) (flatG_below (fun i k => Below.lit) (i + 1 + 1))), .inl rfl⟩
      show _ ++ [iV (O.bin .add .i64 (f.slo (O.nat (Int.ofNat (i + 1)))) (O.bin .rem .i64 q z))] = _ ++ [iV (f.nthN N (i + 1))]
      rw [e4]
    · have hz : f.ns = i + 1 := by
        have : (f.ns : Int) ≤ ((i + 1 : Nat) : Int) := by subst hO; simpa [std] using h
        omega
      refine SW.seqRun tok hO (by cbv <;> rfl) (by trivial) ?_
      refine SW.ret ⟨_, _, rfl, rfl, ?_⟩
      rw [hz]
      exact frz_flatI (z := fun i _ => f.nthN N i) (fm := none) rfl (by rw [hG]; rfl)
end Go.Fz

/-
  Layer 1: WHAT A SMALLER NOTCH DOES (P1.11, P1.16); the truth with a number is one. Own work of the verifier of watercress.
-/
namespace Go.Fz

theorem tmod_bound {q z : Int} (hq : 0 ≤ q) (hz : 0 < z) : 0 ≤ q.tmod z ∧ q.tmod z < z := ⟨Int.tmod_nonneg z hq, Int.tmod_lt_of_pos q hz⟩
theorem FarmD.qN_nonneg (f : FarmD) (g : f.Good) (N : Int) (h0 : 0 ≤ N) (h1 : N ≤ 9223372036854775807) : ∀ s, s ≤ f.ns → 0 ≤ f.qN N s ∧ f.qN N s ≤ 9223372036854775807
  | 0, _ => ⟨h0, h1⟩
  | s + 1, h => by
    obtain ⟨k0, k1⟩ := f.qN_nonneg g N h0 h1 s (by omega)
    obtain ⟨_, hs0, hs1, hs2⟩ := g.spring s (by omega)
    have hsz := size64_in hs0 hs1 hs2
    show 0 ≤ quo64 (f.qN N s) (size64 (f.slo s) (f.shi s)) ∧ quo64 (f.qN N s) (size64 (f.slo s) (f.shi s)) ≤ _
    rw [hsz]
    have hz : 1 ≤ f.shi s - f.slo s + 1 := by omega
    generalize f.shi s - f.slo s + 1 = z at hz
    have h2 : 0 ≤ (f.qN N s).tdiv z := Int.tdiv_nonneg k0 (by omega)
    have h3 : (f.qN N s).tdiv z ≤ f.qN N s := by
      have := Int.tdiv_mul_add_tmod (f.qN N s) z
      have h4 := Int.tmod_nonneg z k0
      have h5 : (f.qN N s).tdiv z * 1 ≤ (f.qN N s).tdiv z * z := Int.mul_le_mul_of_nonneg_left hz h2
      omega
    unfold quo64
    rw [wrp_in (by simp only [IntKind.lo]; omega) (by simp only [IntKind.hi]; omega)]
    omega
theorem FarmD.nth_listed (f : FarmD) (g : f.Good) (N : Int) (h0 : 0 ≤ N) (h1 : N ≤ 9223372036854775807) : f.listedB f.ns (f.nthN N) = true := by
  unfold FarmD.listedB
  rw [Bool.and_eq_true]
  refine ⟨by simp, allN_true fun s hs => ?_⟩
  obtain ⟨k0, k1⟩ := f.qN_nonneg g N h0 h1 s (by omega)
  obtain ⟨_, hs0, hs1, hs2⟩ := g.spring s hs
  have hsz := size64_in hs0 hs1 hs2
  have hb := tmod_bound (z := f.shi s - f.slo s + 1) k0 (by omega)
  have : f.nthN N s = f.slo s + (f.qN N s).tmod (f.shi s - f.slo s + 1) := by
    unfold FarmD.nthN
    rw [hsz, add64_in _ _ (by omega) (by omega)]
  unfold Go.Fz.inB
  rw [this, Bool.and_eq_true, decide_eq_true_eq, decide_eq_true_eq]
  omega

/-- The farm with another notch. -/
def FarmD.setN (f : FarmD) (k : Nat) (v : Int) : FarmD := { f with notch := fun i => if i = k then v else f.notch i }

section
variable (f : FarmD) (g : f.Good) (k : Nat) (hk : k < f.nb) (v : Int) (hv0 : 0 ≤ v) (hv1 : v ≤ f.notch k)
include g hv0 hv1 hk
theorem FarmD.setN_good : (f.setN k v).Good := by
  have hb := g.bed k hk
  refine ⟨g.nb, g.ns, g.nl, g.pos, fun i hi => ?_, g.spring, g.look⟩
  obtain ⟨h1, h2, h3⟩ := g.bed i hi
  refine ⟨h1, ?_, h3⟩
  show 0 ≤ (if i = k then v else f.notch i) ∧ (if i = k then v else f.notch i) ≤ 9
  split <;> omega
end

theorem FarmD.abN_step (f : FarmD) (g : f.Good) (b below : Nat) (hb : b < f.nb) : f.aboveN b below = (decide (f.down b = (below : Int)) || (decide (0 ≤ f.down b) && f.aboveN (f.down b).toNat below)) := by
  unfold FarmD.aboveN
  rcases (g.bed b hb).2.2 with h | ⟨h1, h2⟩
  · rw [h, f.abT_neg below _ (by omega)]
    simp
  · rw [f.abv_step g below _ (by omega) h2]
    by_cases hd : f.down b = (below : Int)
    · rw [if_pos hd, decide_eq_true hd]; rfl
    · rw [if_neg hd, decide_eq_false hd, decide_eq_true (show 0 ≤ f.down b by omega)]
      simp
theorem FarmD.abN_gt (f : FarmD) (g : f.Good) (b below : Nat) (hb : b < f.nb) (h : f.aboveN b below = true) : b < below := by
  unfold FarmD.aboveN at h
  rcases (g.bed b hb).2.2 with h' | ⟨h1, h2⟩
  · rw [h', f.abT_neg below _ (by omega)] at h; cases h
  · rcases Nat.lt_or_ge b below with hlt | hge
    · exact hlt
    · rw [f.abT_past g below _ _ h2 (by omega)] at h; cases h
/-- What goes on from a bed. -/
def FarmD.ovN (f : FarmD) (fl : Nat → Int) (j : Nat) : Int := maxI 0 (sub64 (f.waN fl j) (f.notch j))

theorem FarmD.abN_trans (f : FarmD) (g : f.Good) (k : Nat) : ∀ (m j i : Nat), f.nb - j ≤ m → j < f.nb → i < f.nb → f.down j = (i : Int) → ∀ a, a < f.nb → f.aboveN a j = true → f.aboveN a i = true := by
  intro m j i _ hj hi hd a
  induction hq : f.nb - a using Nat.strongRecOn generalizing a with
  | _ q ih =>
    intro ha h
    rw [f.abN_step g a j ha] at h
    rw [f.abN_step g a i ha]
    rcases (g.bed a ha).2.2 with h' | ⟨h1, h2⟩
    · rw [h'] at h
      simp at h
    · have ht : (f.down a).toNat < f.nb := by omega
      by_cases hdj : f.down a = (j : Int)
      · have : (f.down a).toNat = j := by omega
        have h3 : f.aboveN j i = true := by
          rw [f.abN_step g j i hj, hd]; simp
        rw [this, h3, decide_eq_true (show 0 ≤ f.down a by omega)]
        simp
      · rw [decide_eq_false hdj, Bool.false_or, Bool.and_eq_true] at h
        have h3 := ih (f.nb - (f.down a).toNat) (by omega) (f.down a).toNat rfl ht h.2
        rw [h3, decide_eq_true (show 0 ≤ f.down a by omega)]
        simp

theorem FarmD.lower (f : FarmD) (g : f.Good) (k : Nat) (hk : k < f.nb) (v : Int) (hv0 : 0 ≤ v) (hv1 : v ≤ f.notch k) (fl : Nat → Int) (hfl : ∀ s, s < f.ns → 0 ≤ fl s ∧ fl s ≤ 30) (i : Nat) : i < f.nb →
    (f.aboveN k i = true → f.waN fl i ≤ (f.setN k v).waN fl i) ∧ (f.aboveN k i = false → (f.setN k v).waN fl i = f.waN fl i) := by
  have g2 := f.setN_good g k hk v hv0 hv1
  induction i using Nat.strongRecOn with
  | _ i ih =>
    intro hi
    have hnb := g.nb
    rw [(f.setN k v).waN_eq, f.waN_eq]
    have wb : ∀ j, j < f.nb → 0 ≤ f.waN fl j ∧ f.waN fl j ≤ 15360 := fun j hj => by
      obtain ⟨h1, h2⟩ := f.waN_bound g fl hfl j hj
      have := pow2_le (b := j) (by omega)
      omega
    have wb2 : ∀ j, j < f.nb → 0 ≤ (f.setN k v).waN fl j ∧ (f.setN k v).waN fl j ≤ 15360 := fun j hj => by
      obtain ⟨h1, h2⟩ := (f.setN k v).waN_bound g2 fl hfl j hj
      have := pow2_le (b := j) (by omega)
      omega
    -- what goes on from a bed
    have ov : ∀ j, j < i → f.down j = (i : Int) →
        (maxI 0 (sub64 (f.waN fl j) (f.notch j)) ≤ maxI 0 (sub64 ((f.setN k v).waN fl j) ((f.setN k v).notch j))) ∧
        (f.aboveN k i = false → maxI 0 (sub64 ((f.setN k v).waN fl j) ((f.setN k v).notch j)) = maxI 0 (sub64 (f.waN fl j) (f.notch j))) := fun j hji hd => by
      have hj : j < f.nb := by omega
      obtain ⟨h1, h2⟩ := ih j hji hj
      obtain ⟨_, ⟨n0, n1⟩, _⟩ := g.bed j hj
      obtain ⟨_, ⟨m0, m1⟩, _⟩ := g2.bed j hj
      obtain ⟨w0, w1⟩ := wb j hj
      obtain ⟨u0, u1⟩ := wb2 j hj
      have hn : (f.setN k v).notch j = if j = k then v else f.notch j := rfl
      rw [sub64_in _ _ (by omega) (by omega), sub64_in _ _ (by omega) (by omega)]
      refine ⟨?_, fun hab => ?_⟩
      · have hw : f.waN fl j ≤ (f.setN k v).waN fl j := by
          cases hb : f.aboveN k j with
          | true => exact h1 hb
          | false => rw [h2 hb]; exact Int.le_refl _
        have hnn : (f.setN k v).notch j ≤ f.notch j := by
          rw [hn]; split
          · rename_i e; subst e; exact hv1
          · exact Int.le_refl _
        unfold maxI
        split <;> split <;> omega
      · have hjk : j ≠ k := fun e => by
          subst e
          rw [f.abN_step g j i hj, hd] at hab
          simp at hab
        have hb : f.aboveN k j = false := by
          cases hb : f.aboveN k j with
          | false => rfl
          | true => rw [f.abN_trans g k _ j i (Nat.le_refl _) hj hi hd k hk hb] at hab; cases hab
        rw [h2 hb, hn, if_neg hjk]
    have key : ∀ m, m ≤ i → (f.inB fl (f.waN fl) i m ≤ (f.setN k v).inB fl ((f.setN k v).waN fl) i m) ∧ (f.aboveN k i = false → (f.setN k v).inB fl ((f.setN k v).waN fl) i m = f.inB fl (f.waN fl) i m) ∧
        (0 ≤ f.inB fl (f.waN fl) i m ∧ f.inB fl (f.waN fl) i m ≤ 120 + 15360 * m) ∧ (0 ≤ (f.setN k v).inB fl ((f.setN k v).waN fl) i m ∧ (f.setN k v).inB fl ((f.setN k v).waN fl) i m ≤ 120 + 15360 * m) := by
      intro m
      induction m with
      | zero =>
        intro _
        have he : (f.setN k v).inB fl ((f.setN k v).waN fl) i 0 = f.inB fl (f.waN fl) i 0 := by
          show (f.setN k v).inS fl i f.ns = f.inS fl i f.ns
          have : ∀ s, (f.setN k v).inS fl i s = f.inS fl i s := fun s => by
            induction s with
            | zero => rfl
            | succ s ihs => simp only [FarmD.inS, ihs]; rfl
          exact this _
        obtain ⟨h1, h2⟩ := f.inS_bound fl g.ns hfl i f.ns (Nat.le_refl _)
        have hns := g.ns
        have hb : 0 ≤ f.inB fl (f.waN fl) i 0 ∧ f.inB fl (f.waN fl) i 0 ≤ 120 := ⟨h1, by show f.inS fl i f.ns ≤ 120; omega⟩
        rw [he]
        exact ⟨Int.le_refl _, fun _ => rfl, ⟨hb.1, by omega⟩, ⟨hb.1, by omega⟩⟩
      | succ m ihm =>
        intro hm
        obtain ⟨h1, h2, ⟨h3, h4⟩, ⟨h5, h6⟩⟩ := ihm (by omega)
        obtain ⟨w0, w1⟩ := wb m (by omega)
        obtain ⟨u0, u1⟩ := wb2 m (by omega)
        obtain ⟨_, ⟨n0, n1⟩, _⟩ := g.bed m (by omega)
        obtain ⟨_, ⟨m0, m1⟩, _⟩ := g2.bed m (show m < f.nb by omega)
        have e1 : f.inB fl (f.waN fl) i (m + 1) = if f.down m = (i : Int) then add64 (f.inB fl (f.waN fl) i m) (maxI 0 (sub64 (f.waN fl m) (f.notch m))) else f.inB fl (f.waN fl) i m := rfl
        have e2 : (f.setN k v).inB fl ((f.setN k v).waN fl) i (m + 1) = if f.down m = (i : Int) then add64 ((f.setN k v).inB fl ((f.setN k v).waN fl) i m) (maxI 0 (sub64 ((f.setN k v).waN fl m) ((f.setN k v).notch m))) else (f.setN k v).inB fl ((f.setN k v).waN fl) i m := rfl
        rw [e1, e2]
        by_cases hd : f.down m = (i : Int)
        · obtain ⟨o1, o2⟩ := ov m (by omega) hd
          have b1 : 0 ≤ maxI 0 (sub64 (f.waN fl m) (f.notch m)) ∧ maxI 0 (sub64 (f.waN fl m) (f.notch m)) ≤ 15360 := by
            rw [sub64_in _ _ (by omega) (by omega)]; unfold maxI; split <;> omega
          have b2 : 0 ≤ maxI 0 (sub64 ((f.setN k v).waN fl m) ((f.setN k v).notch m)) ∧ maxI 0 (sub64 ((f.setN k v).waN fl m) ((f.setN k v).notch m)) ≤ 15360 := by
            rw [sub64_in _ _ (by omega) (by omega)]; unfold maxI; split <;> omega
          rw [if_pos hd, if_pos hd, add64_in _ _ (by omega) (by omega), add64_in _ _ (by omega) (by omega)]
          refine ⟨by omega, fun hab => by rw [h2 hab, o2 hab], ⟨by omega, by omega⟩, ⟨by omega, by omega⟩⟩
        · rw [if_neg hd, if_neg hd]
          exact ⟨h1, h2, ⟨h3, by omega⟩, ⟨h5, by omega⟩⟩
    obtain ⟨h1, h2, _⟩ := key i (Nat.le_refl _)
    exact ⟨fun _ => h1, h2⟩
end Go.Fz

/-
  Layer 1: the farm with another notch is valid, and its water. Own work of the verifier of watercress.
-/
namespace Go.Fz

theorem valid_of_good {f : FarmD} (g : f.Good) : f.long = false ∧ f.validB = true := by
  have h1 := g.nb
  have h2 := g.ns
  have h3 := g.nl
  refine ⟨?_, ?_⟩
  · simp only [FarmD.long, Bool.or_eq_false_iff, decide_eq_false_iff_not, Nat.not_lt]; omega
  · simp only [FarmD.validB, Bool.and_eq_true, decide_eq_true_eq, allN]
    refine ⟨⟨⟨g.pos, fun i hi => ?_⟩, fun i hi => ?_⟩, fun i hi => ?_⟩
    · have := g.bed i hi
      simp only [FarmD.bedOk, notchB, FarmD.hasB, Bool.and_eq_true, Bool.or_eq_true, decide_eq_true_eq]
      omega
    · have := g.spring i hi
      simp only [FarmD.springOk, withinB, FarmD.hasB, Bool.and_eq_true, decide_eq_true_eq]
      omega
    · have := g.look i hi
      simp only [FarmD.lookOk, withinB, FarmD.hasB, Bool.and_eq_true, decide_eq_true_eq]
      omega
theorem FarmD.setN_many (f : FarmD) (k : Nat) (v : Int) : ∀ s, (f.setN k v).manyN s = f.manyN s
  | 0 => rfl
  | s + 1 => by
    show minI 3000 (mul64 ((f.setN k v).manyN s) _) = minI 3000 (mul64 (f.manyN s) _)
    rw [f.setN_many k v s]; rfl
theorem FarmD.setN_fault (f : FarmD) (g : f.Good) (k : Nat) (v : Int) (g2 : (f.setN k v).Good) (h : f.faultN = 0) : (f.setN k v).faultN = 0 := by
  obtain ⟨h1, h2⟩ := valid_of_good g
  obtain ⟨h3, h4⟩ := valid_of_good g2
  unfold FarmD.faultN at h ⊢
  rw [h1, h2] at h
  rw [h3, h4]
  simp only [Bool.false_eq_true, if_false, if_true] at h ⊢
  rw [show (f.setN k v).ns = f.ns from rfl, f.setN_many]
  exact h

/-- The water, in the statement's words. -/
theorem FarmD.lower_water (f : FarmD) (g : f.Good) (k : Nat) (hk : k < f.nb) (v : Int) (hv0 : 0 ≤ v) (hv1 : v ≤ f.notch k) (fl : Nat → Int) (hfl : ∀ s, s < f.ns → 0 ≤ fl s ∧ fl s ≤ 30) :
    ((f.setN k v).water fl k 0 = f.water fl k 0 ∧ (f.setN k v).water fl k 1 ≤ f.water fl k 1) ∧
    ∀ i, i < f.nb → i ≠ k → (f.aboveN k i = true → f.water fl i 0 ≤ (f.setN k v).water fl i 0) ∧ (f.aboveN k i = false → (f.setN k v).water fl i 0 = f.water fl i 0 ∧ (f.setN k v).water fl i 1 = f.water fl i 1 ∧ (f.setN k v).water fl i 2 = f.water fl i 2) := by
  have g2 := f.setN_good g k hk v hv0 hv1
  have hW1 := f.water_eq g fl hfl
  have hW2 := (f.setN k v).water_eq g2 fl hfl
  have hlow := f.lower g k hk v hv0 hv1 fl hfl
  have hn : ∀ i, (f.setN k v).notch i = if i = k then v else f.notch i := fun i => rfl
  have hab : f.aboveN k k = false := by
    cases h : f.aboveN k k with
    | false => rfl
    | true => exact absurd (f.abN_gt g k k hk h) (Nat.lt_irrefl _)
  refine ⟨?_, fun i hi hik => ⟨fun h => ?_, fun h => ?_⟩⟩
  · obtain ⟨a1, a2, _⟩ := hW1 k hk
    obtain ⟨b1, b2, _⟩ := hW2 k hk
    have hw := (hlow k hk).2 hab
    rw [a1, b1, a2, b2]
    unfold FarmD.downN
    rw [hw, hn, if_pos rfl]
    refine ⟨rfl, ?_⟩
    unfold minI
    split <;> split <;> omega
  · rw [(hW1 i hi).1, (hW2 i hi).1]
    exact (hlow i hi).1 h
  · obtain ⟨a1, a2, a3⟩ := hW1 i hi
    obtain ⟨b1, b2, b3⟩ := hW2 i hi
    have hw := (hlow i hi).2 h
    have hd : (f.setN k v).downN fl i = f.downN fl i := by
      unfold FarmD.downN; rw [hw, hn, if_neg hik]
    exact ⟨by rw [a1, b1, hw], by rw [a2, b2, hd], by rw [a3, b3, hw, hd]⟩
end Go.Fz

/-
  MORE STEPS: a cell of a slice at a place that is not known. Own work of the verifier of watercress.
-/
namespace Go.Fz
variable {P : Program} {T : Ti}

/-! ### To run so many operations of a region that draws its order -/
def runDN (O : Ar) (T : Ti) (ops : Array Oper) : Nat → Nat → List (Nat × AV) → Array Bool → List Cond → Fm → St → DOut
  | 0, fuel, pend, listed, cs, f, st => .stop cs fuel pend listed f st
  | _ + 1, 0, pend, listed, cs, f, st => .stop cs 0 pend listed f st
  | k + 1, fuel + 1, pend, listed, cs, f, st => match Region.ready .any ops listed with
    | [] => .done cs f st
    | rs => match pickD O T ops pend st.h f rs with
      | some (i, o, c, .sb b) => match isCmp o with
        | true => .stop cs (fuel + 1) pend listed f st
        | false => runDN O T ops k fuel ((i, .sb b) :: pend) (listed.setIfInBounds i true) (c ++ cs) (f.put o.dst (.sb b)) st
      | some (i, o, c, r) => runDN O T ops k fuel ((i, r) :: pend) (listed.setIfInBounds i true) (c ++ cs) (f.put o.dst r) st
      | none => .stop cs (fuel + 1) pend listed f st
theorem runDN_cs {O : Ar} {ops : Array Oper} : ∀ (k fuel : Nat) (pend : List (Nat × AV)) (listed : Array Bool) (cs : List Cond) (f : Fm) (st : St), ∀ c ∈ cs, c ∈ (runDN O T ops k fuel pend listed cs f st).cs
  | 0, _, _, _, _, _, _, c, h => h
  | _ + 1, 0, _, _, _, _, _, c, h => h
  | k + 1, fuel + 1, pend, listed, cs, f, st, c, h => by
    unfold runDN
    split
    · exact h
    · split
      · split
        · exact h
        · exact runDN_cs k fuel _ _ _ _ _ c (List.mem_append_right _ h)
      · exact runDN_cs k fuel _ _ _ _ _ c (List.mem_append_right _ h)
      · exact h
theorem runDN_ok (hT : TOk P T) {O : Ar} (hO : O = std) {rd : Option Nat} {ops : Array Oper} {K : Fm → St → Prop} (hM : tidyB ops (masks ops) = true) : ∀ (k fuel : Nat) (pend : List (Nat × AV)) (listed : Array Bool) (cs : List Cond) (f : Fm) (st : St),
    (∀ c ∈ (runDN O T ops k fuel pend listed cs f st).cs, c.holds) → (runDN O T ops k fuel pend listed cs f st).post P T rd ops K → AnyE P T ops (masks ops) rd K fuel pend listed f st
  | 0, _, _, _, _, _, _, _, h => h
  | _ + 1, 0, _, _, _, _, _, _, h => h
  | k + 1, fuel + 1, pend, listed, cs, f, st, hc, h => by
    unfold runDN at hc h
    split at h
    · rename_i hr
      exact .done (by rw [hr]; rfl) h
    · rename_i hr
      split at h
      · rename_i i o c b hp
        obtain ⟨h1, h2, h3, h4⟩ := pickD_ok hO hp
        simp only [hp] at hc
        split at h
        · exact h
        · rename_i hcmp
          simp only [hcmp] at hc
          have hl := h4 fun x hx => hc x (runDN_cs k fuel _ _ _ _ _ x (List.mem_append_left _ hx))
          refine .take hM hT i h2 ?_ hl (runDN_ok hT hO hM k fuel _ _ _ _ _ hc h)
          rw [h3, Bool.and_true]
          exact List.contains_iff_mem.2 h1
      · rename_i i o c r hnsb hp
        obtain ⟨h1, h2, h3, h4⟩ := pickD_ok hO hp
        simp only [hp] at hc
        have hl := h4 fun x hx => hc x (runDN_cs k fuel _ _ _ _ _ x (List.mem_append_left _ hx))
        refine .take hM hT i h2 ?_ hl (runDN_ok hT hO hM k fuel _ _ _ _ _ hc h)
        rw [h3, Bool.and_true]
        exact List.contains_iff_mem.2 h1
      · exact h
theorem SW.seqRunDN (hT : TOk P T) (hm : P.follows .mixedOrders = true) {O : Ar} (hO : O = std) (k : Nat) {rd : Option Nat} {id : Nat} {ops : Array Oper} {y : Code} {Q : Exit → Fm → St → Prop} {f : Fm} {st : St} {R : DOut} (hM : tidyB ops (masks ops) = true)
    (hR : Fz.runDN O T ops k ops.size [] (Array.replicate ops.size false) [] f st = R) (hc : allC R.cs) (h : R.postS P T rd ops y Q) : SW P rd (.seq (.region id ops true) y) Q f st := by
  subst hR
  refine SW.seq (SW.drawnE hm hM (runDN_ok hT hO hM _ _ _ _ _ _ _ (allC_ok hc) ?_))
  generalize Fz.runDN O T ops k ops.size [] (Array.replicate ops.size false) [] f st = R at h
  cases R <;> exact h
theorem SW.runDN (hT : TOk P T) (hm : P.follows .mixedOrders = true) {O : Ar} (hO : O = std) (k : Nat) {rd : Option Nat} {id : Nat} {ops : Array Oper} {Q : Exit → Fm → St → Prop} {f : Fm} {st : St} {R : DOut} (hM : tidyB ops (masks ops) = true)
    (hR : Fz.runDN O T ops k ops.size [] (Array.replicate ops.size false) [] f st = R) (hc : allC R.cs) (h : R.post P T rd ops (fun f st => Q .normal f st)) : SW P rd (.region id ops true) Q f st := by
  subst hR
  exact SW.drawnE hm hM (runDN_ok hT hO hM _ _ _ _ _ _ _ (allC_ok hc) h)

theorem AnyE.runN (hT : TOk P T) {O : Ar} (hO : O = std) (k : Nat) {rd : Option Nat} {ops : Array Oper} {K : Fm → St → Prop} {fuel : Nat} {pend : List (Nat × AV)} {listed : Array Bool} {f : Fm} {st : St} {R : DOut} (hM : tidyB ops (masks ops) = true)
    (hR : Fz.runDN O T ops k fuel pend listed [] f st = R) (hc : allC R.cs) (h : R.post P T rd ops K) : AnyE P T ops (masks ops) rd K fuel pend listed f st := by
  subst hR
  exact runDN_ok hT hO hM _ _ _ _ _ _ _ (allC_ok hc) h

/-! ### The address of an element of a slice -/
def idxAt (ops : Array Oper) (i : Nat) (f : Fm) : Option (TypeId × AV × AV) := match ops[i]? with
  | none => none
  | some o => match wantA ops f.ts o with
    | some true => match o.op with
      | .indexAddr t x ix => some (t, Operand.av f.ts x, Operand.av f.ts ix)
      | _ => none
    | _ => none
theorem AnyE.idxSl (hT : TOk P T) {rd : Option Nat} {ops : Array Oper} {K : Fm → St → Prop} {fuel : Nat} {pend : List (Nat × AV)} {listed : Array Bool} {f : Fm} {st : St} (i : Nat) {t id off len sz n : Nat} {ex : Bool} {k : IntKind} (hM : tidyB ops (masks ops) = true)
    (hx : idxAt ops i f = some (t, .sl id off len sz ex, .lit (.int k (Int.ofNat n)))) (hb : sliceB T t sz = true) (hn : n < len)
    (hr : (match ops[i]? with | some o => (Region.ready .any ops listed).contains i && noLookB ops pend o | none => false) = true)
    (h : ∀ q, q = off + n * sz → AnyE P T ops (masks ops) rd K fuel ((i, .ptr id q) :: pend) (listed.setIfInBounds i true) (putAt ops i f (.ptr id q)) st) : AnyE P T ops (masks ops) rd K (fuel + 1) pend listed f st := by
  have h := h _ rfl
  obtain ⟨ti, tj, e, h1, h2, h3, h4, h5, h6, h7, h8⟩ := sliceB_ok hb
  unfold idxAt at hx
  split at hx
  · cases hx
  · rename_i o ho
    split at hx
    · rename_i hw
      split at hx
      · rename_i t' x ix hop
        simp only [Option.some.injEq, Prod.mk.injEq] at hx
        obtain ⟨rfl, k2, k3⟩ := hx
        have hput : ∀ v, putAt ops i f v = f.put o.dst v := fun v => by simp [putAt, ho]
        rw [hput] at h
        simp only [ho] at hr
        refine AnyE.take hM hT i ho hr ?_ h
        simp only [Fz.lightV, ho, hw, evG, evL, hop, k2, k3, h1, h2, h3]
        rw [if_pos ⟨Int.natCast_nonneg n, Int.ofNat_lt.2 hn, h4⟩]
        rfl
      · cases hx
    · cases hx

/-! ### A store into a cell -/
def stoAt (ops : Array Oper) (i : Nat) (f : Fm) : Option (TypeId × AV × AV) := match ops[i]? with
  | none => none
  | some o => match wantA ops f.ts o with
    | some true => match o.op with
      | .store t p x => some (t, Operand.av f.ts p, Operand.av f.ts x)
      | _ => none
    | _ => none
def sizeB (T : Ti) (t n : Nat) : Bool := match T t with
  | some i => Nat.beq i.size n
  | none => false
theorem AnyE.sto (hT : TOk P T) {rd : Option Nat} {ops : Array Oper} {M : List Nat} {K : Fm → St → Prop} {fuel : Nat} {pend : List (Nat × AV)} {listed : Array Bool} {f : Fm} {st : St} {j t id off : Nat} {v : Int} {k : IntKind} {G : List AV}
    (hj : onlyD ops M pend listed = some (j, [])) (ha : stoAt ops j f = some (t, .ptr id off, .lit (.int k v))) (hb : sizeB T t 1 = true) (hx : st.h.get id = some (.cells none false G)) (hl : off < G.length)
    (h : ∀ G', G' = G.set off (.lit (.int k v)) → AnyE P T ops M rd K fuel [] (listed.setIfInBounds j true) (putAt ops j f undA) ⟨st.h.set id (.cells none false G'), st.n⟩) : AnyE P T ops M rd K (fuel + 1) pend listed f st := fun k1 k2 k3 => by
  have h := h _ rfl
  unfold stoAt at ha
  split at ha
  · cases ha
  · rename_i o ho
    split at ha
    · rename_i hw
      split at ha
      · rename_i t' p x hop
        simp only [Option.some.injEq, Prod.mk.injEq] at ha
        obtain ⟨rfl, e2, e3⟩ := ha
        have hput : ∀ v, putAt ops j f v = f.put o.dst v := fun v => by simp [putAt, ho]
        rw [hput] at h
        have hst : storeO T st (Operand.av f.ts) o = some ⟨st.h.set id (.cells none false (G.set off (.lit (.int k v)))), st.n⟩ := by
          unfold sizeB at hb
          split at hb
          · rename_i ti hti
            have hsz := Nat.eq_of_beq_eq_true hb
            have h1 : (AV.lit (.int k v)).cells = [.lit (.int k v)] := rfl
            have h2 : (AV.lit (.int k v)).one = true := rfl
            have h3 : (AV.lit (.int k v)).norm = .lit (.int k v) := rfl
            simp only [storeO, hop, storeA, e2, e3, ptrOf, hti, hx, h1, hsz, List.length_singleton, List.map_cons, List.map_nil, h3, setsL_one, List.all_cons, h2, List.all_nil]
            rw [if_pos ⟨trivial, by omega, by simp, by omega⟩]
          · cases hb
        unfold onlyD at hj
        split at hj
        · rename_i j' hrd
          split at hj
          · rename_i o1 ho1
            split at hj
            · rename_i hnl
              simp only [Option.some.injEq, Prod.mk.injEq] at hj
              obtain ⟨rfl, hd⟩ := hj
              refine AnyE.one j' ho (by rw [hrd]; exact Nat.beq_refl j') [] hd (OpsW.store hT ho hw hst (.nil ⟨⟨undA, rfl⟩, (show PendOk T ops [] (f.put o.dst undA) _ from fun p hp => absurd hp List.not_mem_nil), h⟩)) k1 k2 k3
            · cases hj
          · cases hj
        · cases hj
      · cases ha
    · cases ha

theorem flatG_set {sz n i k : Nat} {g g' : Nat → Nat → AV} {v : AV} (hi : i < n) (hk : k < sz) (h1 : g' i k = v) (h2 : ∀ a b, a < n → b < sz → ¬ (a = i ∧ b = k) → g' a b = g a b) : (flatG sz g n).set (i * sz + k) v = flatG sz g' n := by
  have hpos : 0 < sz := by omega
  apply List.ext_getElem?
  intro q
  by_cases hq : q < n * sz
  · have hd : q / sz < n := by rw [Nat.div_lt_iff_lt_mul hpos]; exact hq
    have hm : q % sz < sz := Nat.mod_lt _ hpos
    have he : q = q / sz * sz + q % sz := by rw [Nat.mul_comm]; exact (Nat.div_add_mod q sz).symm
    have h3 := flatG_get sz g' n (q / sz) (q % sz) hd hm
    have h4 := flatG_get sz g n (q / sz) (q % sz) hd hm
    rw [← he] at h3 h4
    rw [h3]
    by_cases hs : i * sz + k = q
    · have hi' : q / sz = i := by
        rw [← hs, Nat.mul_comm, Nat.mul_add_div hpos, Nat.div_eq_of_lt hk, Nat.add_zero]
      have hk' : q % sz = k := by
        rw [← hs, Nat.mul_comm, Nat.mul_add_mod, Nat.mod_eq_of_lt hk]
      rw [hi', hk', h1, hs, List.getElem?_set_self (by rw [flatG_length]; exact hq)]
    · rw [List.getElem?_set_ne hs, h4, h2 _ _ hd hm (fun ⟨ha, hb⟩ => hs (by rw [← ha, ← hb]; exact he.symm))]
  · rw [List.getElem?_eq_none (by rw [List.length_set, flatG_length]; omega), List.getElem?_eq_none (by rw [flatG_length]; omega)]
end Go.Fz
