/- Own work of the verifier of watercress: FzK5. -/
import Derived.Test.YtpefamheopplnaaMe25
set_option linter.unusedVariables false
set_option linter.unusedSimpArgs false
namespace Go.Fz
open Go.Proofs
set_option maxRecDepth 100000
theorem inside_ok (a b c e : Int) (h1 : c ≤ a) (h2 : b ≤ e) : Pure Try.prog 91 [rangeV a b, rangeV c e] (.lit (.bool true)) := by
  obtain ⟨O, hO⟩ : ∃ O : Ar, O = std := ⟨_, rfl⟩
  refine pure_of_body tok 3 Try.func91 en91 rfl ⟨rangeV_below, rangeV_below, trivial⟩ Below.lit ?_
  refine SW.seqRun tok hO (by cbv <;> rfl) (by trivial) ?_
  refine SW.seqRun tok hO (by cbv <;> rfl) (by trivial) ?_
  refine OpsW.splitG (by cbv <;> rfl) (fun h => ?_) (fun h => ?_)
  · refine OpsW.run tok hO (by cbv <;> rfl) (by trivial) ?_
    refine SW.ret ⟨_, _, rfl, rfl, Eqv.trans (b := .sb (decide (b ≤ e))) (Eqv.sb (by subst hO; rfl)) ?_⟩
    rw [decide_eq_true h2]
    exact fun φ u hv => by rw [hv.sb_inv]; exact .lit _
  · exfalso
    subst hO; simp [std] at h; omega
theorem bndC_below' (n : Nat) (a b c d e f : Nat → Int) (p q r s t u v w : Int) : ∀ x ∈ bndC n a b c d e f p q r s t u v w, Below 0 x :=
  AllB.ok ⟨Below.isl fun _ _ _ _ => rngC_below _ _ _ _, Below.isl fun _ _ _ _ => rngC_below _ _ _ _, Below.isl fun _ _ _ _ => rngC_below _ _ _ _, Below.lit, Below.lit, Below.lit, Below.lit, Below.lit, Below.lit, Below.lit, Below.lit, trivial⟩
set_option maxHeartbeats 32000000 in
theorem narrower_ok (n : Nat) (hn : n < 1000) (la0 ha0 la1 ha1 la2 ha2 lb0 hb0 lb1 hb1 lb2 hb2 : Nat → Int) (p q r s t u v w p' q' r' s' t' u' v' w' : Int)
    (h0 : ∀ i, i < n → lb0 i ≤ la0 i ∧ ha0 i ≤ hb0 i) (h1 : ∀ i, i < n → lb1 i ≤ la1 i ∧ ha1 i ≤ hb1 i) (h2 : ∀ i, i < n → lb2 i ≤ la2 i ∧ ha2 i ≤ hb2 i) (k1 : p' ≤ p ∧ q ≤ q') (k2 : r' ≤ r ∧ s ≤ s') (k3 : t' ≤ t ∧ u ≤ u') (k4 : v' ≤ v ∧ w ≤ w') :
    Pure Try.prog 48 [.agg (bndC n la0 ha0 la1 ha1 la2 ha2 p q r s t u v w), .agg (bndC n lb0 hb0 lb1 hb1 lb2 hb2 p' q' r' s' t' u' v' w')] (.lit (.bool true)) := by
  obtain ⟨O, hO⟩ : ∃ O : Ar, O = std := ⟨_, rfl⟩
  have hnat : ∀ i : Nat, O.nat (Int.ofNat i) = i := fun i => by subst hO; rfl
  have hne : O.cmp .neq (Int.ofNat n) (Int.ofNat n) = false := by subst hO; simp [std]
  have i1 := inside_ok p q p' q' k1.1 k1.2
  have i2 := inside_ok r s r' s' k2.1 k2.2
  have i3 := inside_ok t u t' u' k3.1 k3.2
  have i4 := inside_ok v w v' w' k4.1 k4.2
  refine pure_of_body tok 3 Try.func48 en48 rfl ⟨Below.agg (bndC_below' _ _ _ _ _ _ _ _ _ _ _ _ _ _ _), Below.agg (bndC_below' _ _ _ _ _ _ _ _ _ _ _ _ _ _ _), trivial⟩ Below.lit ?_
  refine SW.seqRun tok hO (by cbv <;> rfl) (by trivial) ?_
  refine SW.seq ?_
  refine SW.seqRun tok hO (by cbv <;> rfl) (by trivial) ?_
  refine OpsW.splitG (by cbv <;> rfl) (fun h => absurd (show false = true from hne.symm.trans h) (by decide)) (fun _ => ?_)
  refine OpsW.run tok hO (by cbv <;> rfl) (by trivial) ?_
  refine OpsW.splitG (by cbv <;> rfl) (fun h => absurd (show false = true from hne.symm.trans h) (by decide)) (fun _ => ?_)
  refine OpsW.run tok hO (by cbv <;> rfl) (by trivial) ?_
  refine OpsW.splitG (by cbv <;> rfl) (fun h => absurd (show false = true from hne.symm.trans h) (by decide)) (fun _ => ?_)
  refine OpsW.run tok hO (by cbv <;> rfl) (by trivial) ?_
  refine OpsW.splitG (by cbv <;> rfl) (fun h => absurd (show false = true from hne.symm.trans h) (by decide)) (fun _ => ?_)
  refine OpsW.run tok hO (by cbv <;> rfl) (by trivial) ?_
  refine SW.condS (by cbv <;> rfl) (fun h => absurd (show false = true from hne.symm.trans h) (by decide)) (fun _ => SW.skip ?_)
  refine SW.seq ?_
  refine SW.seqRun tok hO (by cbv <;> rfl) (by trivial) ?_
  refine (SW.block (SW.loopF (fun i : Nat => ⟨⟨122, getT [(2, .ptr 0 0), (3, .ptr 1 0), (5, iV i)]⟩, []⟩)
    (fun _ => ⟨[(1, .cells none false (bndC n lb0 hb0 lb1 hb1 lb2 hb2 p' q' r' s' t' u' v' w')), (0, .cells none false (bndC n la0 ha0 la1 ha1 la2 ha2 p q r s t u v w))], 2⟩) (fun i => n - i) (fun i => i ≤ n) 0
    (fun _ => rfl) (Nat.zero_le _) (Weak.by rfl rfl (by simp) (Nat.le_refl _) (Nat.le_refl _) ⟨⟨rfl, .inl rfl⟩, ⟨rfl, .inl rfl⟩, ⟨rfl, .inl rfl⟩, trivial⟩ ⟨⟨rfl, by omega, .inl rfl⟩, ⟨rfl, by omega, .inl rfl⟩, trivial⟩) fun i hi => ?_))
  refine SW.seq ?_
  refine SW.seqRun tok hO (by cbv <;> rfl) (by trivial) ?_
  refine SW.condS (by cbv <;> rfl) (fun h => SW.skip ?_) (fun h => SW.exit ?_)
  · have hlt : i < n := by subst hO; simpa [std] using h
    have hi0 : (0 : Int) ≤ Int.ofNat i := Int.natCast_nonneg i
    have hin : 0 ≤ Int.ofNat i ∧ Int.ofNat i < (n : Int) := ⟨hi0, Int.ofNat_lt.2 hlt⟩
    have hlt' : O.nat (Int.ofNat i) < n := by rw [hnat]; exact hlt
    have x0 := inside_ok (la0 (O.nat (Int.ofNat i))) (ha0 (O.nat (Int.ofNat i))) (lb0 (O.nat (Int.ofNat i))) (hb0 (O.nat (Int.ofNat i))) (h0 _ hlt').1 (h0 _ hlt').2
    have x1 := inside_ok (la1 (O.nat (Int.ofNat i))) (ha1 (O.nat (Int.ofNat i))) (lb1 (O.nat (Int.ofNat i))) (hb1 (O.nat (Int.ofNat i))) (h1 _ hlt').1 (h1 _ hlt').2
    have x2 := inside_ok (la2 (O.nat (Int.ofNat i))) (ha2 (O.nat (Int.ofNat i))) (lb2 (O.nat (Int.ofNat i))) (hb2 (O.nat (Int.ofNat i))) (h2 _ hlt').1 (h2 _ hlt').2
    refine SW.seq (SW.block ?_)
    refine SW.seqRunDN tok mixed hO 4 (by kernel_rfl) (by cbv <;> rfl) (by first | trivial | exact hin | exact ⟨hin, trivial⟩) ?_
    refine AnyE.runN tok hO 4 (by kernel_rfl) (by cbv <;> rfl) (by first | trivial | exact hin | exact ⟨hin, trivial⟩ | exact ⟨hin, hin⟩) ?_
    refine AnyE.run tok hO (by kernel_rfl) (by cbv <;> rfl) (by first | trivial | exact hin | exact ⟨hin, trivial⟩ | exact ⟨hin, hin⟩) ?_
    refine AnyE.callP x0 (by cbv <;> rfl) (by cbv <;> rfl) ?_
    refine AnyE.runN tok hO 6 (by kernel_rfl) (by cbv <;> rfl) (by first | trivial | exact hin | exact ⟨hin, trivial⟩) ?_
    refine AnyE.runN tok hO 3 (by kernel_rfl) (by cbv <;> rfl) (by first | trivial | exact hin | exact ⟨hin, trivial⟩) ?_
    refine AnyE.run tok hO (by kernel_rfl) (by cbv <;> rfl) (by first | trivial | exact hin | exact ⟨hin, hin⟩) ?_
    refine AnyE.callP x1 (by cbv <;> rfl) (by cbv <;> rfl) ?_
    refine AnyE.runN tok hO 6 (by kernel_rfl) (by cbv <;> rfl) (by first | trivial | exact hin | exact ⟨hin, trivial⟩) ?_
    refine AnyE.runN tok hO 3 (by kernel_rfl) (by cbv <;> rfl) (by first | trivial | exact hin | exact ⟨hin, trivial⟩) ?_
    refine AnyE.run tok hO (by kernel_rfl) (by cbv <;> rfl) (by first | trivial | exact hin | exact ⟨hin, hin⟩) ?_
    refine AnyE.callP x2 (by cbv <;> rfl) (by cbv <;> rfl) ?_
    refine AnyE.run tok hO (by kernel_rfl) (by cbv <;> rfl) (by trivial) ?_
    refine SW.cond (t := false) (by cbv <;> rfl) (SW.skip ?_)
    refine SW.run tok hO (by cbv <;> rfl) (by trivial) ?_
    exact ⟨i + 1, by omega, by omega, Weak.by rfl rfl (by simp) (Nat.le_refl _) (Nat.le_refl _) ⟨⟨rfl, .inl rfl⟩, ⟨rfl, .inl rfl⟩, ⟨inc_ok hO (by omega), .inl rfl⟩, trivial⟩ ⟨⟨rfl, by omega, .inl rfl⟩, ⟨rfl, by omega, .inl rfl⟩, trivial⟩⟩
  · refine SW.seqRun tok hO (by cbv <;> rfl) (by trivial) ?_
    refine OpsW.callP i1 (by cbv <;> rfl) ?_
    refine OpsW.run tok hO (by cbv <;> rfl) (by trivial) ?_
    refine OpsW.callP i2 (by cbv <;> rfl) ?_
    refine OpsW.run tok hO (by cbv <;> rfl) (by trivial) ?_
    refine OpsW.callP i3 (by cbv <;> rfl) ?_
    refine OpsW.run tok hO (by cbv <;> rfl) (by trivial) ?_
    refine OpsW.callP i4 (by cbv <;> rfl) ?_
    refine OpsW.run tok hO (by cbv <;> rfl) (by trivial) ?_
    exact SW.ret ⟨_, _, rfl, rfl, Eqv.of rfl⟩
end Go.Fz
