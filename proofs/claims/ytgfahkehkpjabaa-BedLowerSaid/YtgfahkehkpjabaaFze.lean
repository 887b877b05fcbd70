/-
  The statements' own small functions, of layer 1. Own work of the verifier of watercress.
-/
import Derived.Test.YtgfahkehkpjabaaFzd
import Derived.Test.YtgfahkehkpjabaaFzb
namespace Go.Fz
open Go.Proofs
set_option maxRecDepth 100000

def inB (n a b : Int) : Bool := decide (a ≤ n) && decide (n ≤ b)
theorem in_ok (n a b : Int) : Pure Try.prog 40 [iV n, iV a, iV b] (.sb (inB n a b)) := by
  obtain ⟨O, hO⟩ : ∃ O : Ar, O = std := ⟨_, rfl⟩
  refine pure_of_body tok 3 Try.func40 en40 rfl ⟨iV_below, iV_below, iV_below, trivial⟩ Below.sb ?_
  refine SW.seqRun tok hO (by cbv <;> rfl) (by trivial) ?_
  refine SW.seqRun tok hO (by cbv <;> rfl) (by trivial) ?_
  refine OpsW.splitG (by cbv <;> rfl) (fun h => ?_) (fun h => ?_) <;> refine OpsW.run tok hO (by cbv <;> rfl) (by trivial) ?_
  · refine SW.ret ⟨_, _, rfl, rfl, Eqv.sb (Bool.eq_iff_iff.2 ?_)⟩
    subst hO; simp [std] at h; simp [std, inB]; omega
  · refine SW.ret ⟨_, _, rfl, rfl, Eqv.bool (Bool.eq_iff_iff.2 ?_)⟩
    subst hO; simp [std] at h; simp [inB]; omega

theorem within1_ok (lo hi a b : Int) : Pure Try.prog 87 [rangeV lo hi, iV a, iV b] (.sb (withinB lo hi a b)) := by
  obtain ⟨O, hO⟩ : ∃ O : Ar, O = std := ⟨_, rfl⟩
  refine pure_of_body tok 3 Try.func87 en87 rfl ⟨rangeV_below, iV_below, iV_below, trivial⟩ Below.sb ?_
  refine SW.seqRun tok hO (by cbv <;> rfl) (by trivial) ?_
  refine SW.seqRun tok hO (by cbv <;> rfl) (by trivial) ?_
  repeat' (refine OpsW.splitG (by cbv <;> rfl) (fun h => ?_) (fun h => ?_) <;> refine OpsW.run tok hO (by cbv <;> rfl) (by trivial) ?_)
  all_goals first
    | refine SW.ret ⟨_, _, rfl, rfl, Eqv.bool (Bool.eq_iff_iff.2 ?_)⟩
    | refine SW.ret ⟨_, _, rfl, rfl, Eqv.sb (Bool.eq_iff_iff.2 ?_)⟩
  all_goals subst hO; simp_all [std, withinB]
  all_goals (intros; omega)

theorem count_ok (lo hi : Int) : Pure Try.prog 105 [rangeV lo hi] (iV (size64 lo hi)) := by
  obtain ⟨O, hO⟩ : ∃ O : Ar, O = std := ⟨_, rfl⟩
  refine pure_of_body tok 3 Try.func105 en105 rfl ⟨rangeV_below, trivial⟩ Below.lit ?_
  refine SW.seqRun tok hO (by cbv <;> rfl) (by trivial) ?_
  refine SW.seqRun tok hO (by cbv <;> rfl) (by trivial) ?_
  refine SW.ret ⟨_, _, rfl, rfl, Eqv.int ?_⟩
  subst hO; rfl

theorem isBed_ok (f : FarmD) (n : Int) (hs : f.small) : Pure Try.prog 32 [farmV f, iV n] (.sb (f.hasB n)) := by
  obtain ⟨O, hO⟩ : ∃ O : Ar, O = std := ⟨_, rfl⟩
  have hb := hs.1
  refine pure_of_body tok 3 Try.func32 en32 rfl ⟨farmV_below f, iV_below, trivial⟩ Below.sb ?_
  refine SW.seqRun tok hO (by cbv <;> rfl) (by trivial) ?_
  refine SW.seqRun tok hO (by cbv <;> rfl) (by trivial) ?_
  refine OpsW.callB (in_ok n 0 (O.bin .sub .i64 (Int.ofNat f.nb) 1)) (by cbv <;> rfl) fun b hb' => ?_
  refine OpsW.run tok hO (by cbv <;> rfl) (by trivial) ?_
  refine SW.ret ⟨_, _, rfl, rfl, Eqv.sb (Bool.eq_iff_iff.2 ?_)⟩
  have h1 : O.bin .sub .i64 (Int.ofNat f.nb) 1 = sub64 (Int.ofNat f.nb) 1 := by rw [hO]; exact sub64_eq _ _
  have h2 : sub64 (Int.ofNat f.nb) 1 = (f.nb : Int) - 1 := sub64_in (f.nb : Int) 1 (by omega) (by omega)
  rw [hb', h1, h2]
  simp only [inB, FarmD.hasB, Bool.and_eq_true, decide_eq_true_eq]
  omega

def FarmD.manyN (f : FarmD) : Nat → Int
  | 0 => 1
  | s + 1 => minI 3000 (mul64 (f.manyN s) (size64 (f.slo s) (f.shi s)))
theorem many_ok (f : FarmD) (hs : f.small) : Pure Try.prog 61 [farmV f] (iV (f.manyN f.ns)) := by
  obtain ⟨O, hO⟩ : ∃ O : Ar, O = std := ⟨_, rfl⟩
  have hns := hs.2.1
  refine pure_of_body tok 3 Try.func61 en61 rfl ⟨farmV_below f, trivial⟩ Below.lit ?_
  refine SW.seqRun tok hO (by cbv <;> rfl) (by trivial) ?_
  refine SW.seqRun tok hO (by cbv <;> rfl) (by trivial) ?_
  refine SW.seq ?_
  refine SW.seqRun tok hO (by cbv <;> rfl) (by trivial) ?_
  refine (SW.block (SW.loopF (fun i : Nat => ⟨⟨23, getT [(1, .ptr 0 0), (3, iV (f.manyN i)), (4, iV i)]⟩, []⟩) (fun _ => ⟨[(0, .cells none false [springsV f, bedsV f, looksV f])], 1⟩) (fun i => f.ns - i) (fun i => i ≤ f.ns) 0
    (fun _ => rfl) (Nat.zero_le _) (Weak.by rfl rfl (by simp) (Nat.le_refl _) (Nat.le_refl _) ⟨⟨rfl, .inl rfl⟩, ⟨rfl, .inl rfl⟩, ⟨rfl, .inl rfl⟩, trivial⟩ ⟨⟨rfl, by omega, .inl rfl⟩, trivial⟩) fun i hi => ?_))
  generalize hacc : f.manyN i = acc
  refine SW.seq ?_
  refine SW.seqRun tok hO (by cbv <;> rfl) (by trivial) ?_
  refine SW.condS (by cbv <;> rfl) (fun h => SW.skip ?_) (fun h => SW.exit ?_)
  · have hlt : i < f.ns := by subst hO; simpa [std] using h
    have h0 : (0 : Int) ≤ Int.ofNat i := Int.natCast_nonneg i
    refine SW.seq (SW.block ?_)
    refine SW.run tok hO (by cbv <;> rfl) ?_ ?_
    · exact ⟨h0, Int.ofNat_lt.2 hlt⟩
    refine OpsW.callI (count_ok (f.slo (O.nat (Int.ofNat i))) (f.shi (O.nat (Int.ofNat i)))) (by cbv <;> rfl) fun v hv => ?_
    refine OpsW.run tok hO (by cbv <;> rfl) (by trivial) ?_
    refine SW.run tok hO (by cbv <;> rfl) (by trivial) ?_
    refine ⟨i + 1, by omega, by omega, Weak.by rfl rfl (by simp) (Nat.le_refl _) (Nat.le_refl _) ⟨⟨rfl, .inl rfl⟩, ⟨?_, .inl rfl⟩, ⟨inc_ok hO (by omega), .inl rfl⟩, trivial⟩ ⟨⟨rfl, by omega, .inl rfl⟩, trivial⟩⟩
    subst hO; subst hv; subst hacc; rfl
  · refine SW.seqRun tok hO (by cbv <;> rfl) (by trivial) ?_
    have hge : f.ns ≤ i := by subst hO; simpa [std] using h
    have hin : i = f.ns := by omega
    subst hin; subst hacc
    refine SW.ret ⟨_, _, rfl, rfl, Eqv.of rfl⟩
end Go.Fz

/-
  The reference's Fault, of layer 1. Own work of the verifier of watercress.
-/
namespace Go.Fz
open Go.Proofs
set_option maxRecDepth 100000

def FarmD.faultN (f : FarmD) : Int := if f.long then 3 else if f.validB then (if 2000 < f.manyN f.ns then 3 else 0) else 1

theorem sub1_ok {O : Ar} (hO : O = std) {n : Nat} (h : n < 4611686018427387904) : O.bin .sub .i64 (Int.ofNat n) 1 = (n : Int) - 1 := by
  have h1 : O.bin .sub .i64 (Int.ofNat n) 1 = sub64 (Int.ofNat n) 1 := by rw [hO]; exact sub64_eq _ _
  have h2 : sub64 (Int.ofNat n) 1 = (n : Int) - 1 := sub64_in (n : Int) 1 (by omega) (by omega)
  rw [h1, h2]
theorem add1_ok {O : Ar} (hO : O = std) {n : Nat} (h : n < 4611686018427387904) : O.bin .add .i64 (Int.ofNat n) 1 = (n : Int) + 1 := by
  have h1 : O.bin .add .i64 (Int.ofNat n) 1 = add64 (Int.ofNat n) 1 := by rw [hO]; exact add64_eq _ _
  have h2 : add64 (Int.ofNat n) 1 = (n : Int) + 1 := add64_in (n : Int) 1 (by omega) (by omega)
  rw [h1, h2]

theorem allN_false {n i : Nat} {p : Nat → Bool} (h : i < n) (hp : p i = false) : allN n p = false := by
  simp only [allN, decide_eq_false_iff_not]
  intro hq
  rw [hq i h] at hp; cases hp
theorem allN_true {n : Nat} {p : Nat → Bool} (h : ∀ i, i < n → p i = true) : allN n p = true := by
  simp only [allN, decide_eq_true_eq]; exact h

set_option maxHeartbeats 4000000 in
theorem fault_ok (f : FarmD) (hs : f.small) : Pure Try.prog 36 [farmV f] (iV f.faultN) := by
  obtain ⟨O, hO⟩ : ∃ O : Ar, O = std := ⟨_, rfl⟩
  obtain ⟨hsb, hss, hsl⟩ := hs
  have hnot : ∀ b, O.not b = !b := fun b => by subst hO; rfl
  refine pure_of_body tok 3 Try.func36 en36 rfl ⟨farmV_below f, trivial⟩ Below.lit ?_
  refine SW.seqRun tok hO (by cbv <;> rfl) (by trivial) ?_
  refine SW.seq ?_
  -- the lengths
  have long : f.long = true → ∀ (v : AV) (h : Hp), v = iV 3 → Eqv (frz h (fun _ => true) 3 v) (iV f.faultN) := fun hl v h hv => by
    subst hv; unfold FarmD.faultN; rw [if_pos hl]; exact Eqv.refl _
  have bad : f.long = false → f.validB = false → ∀ (v : AV) (h : Hp), v = iV 1 → Eqv (frz h (fun _ => true) 3 v) (iV f.faultN) := fun hl hv v h he => by
    subst he; unfold FarmD.faultN; rw [if_neg (by rw [hl]; simp), if_neg (by rw [hv]; simp)]; exact Eqv.refl _
  refine SW.seqRun tok hO (by cbv <;> rfl) (by trivial) ?_
  have hlong : (8 < f.nb ∨ 4 < f.ns ∨ 5 < f.nl) → f.long = true := fun h => by
    simp only [FarmD.long, Bool.or_eq_true, decide_eq_true_eq]; omega
  refine OpsW.splitG (by cbv <;> rfl) (fun h1 => ?_) (fun h1 => ?_) <;> refine OpsW.run tok hO (by cbv <;> rfl) (by trivial) ?_
  · refine SW.cond (t := true) (by cbv <;> rfl) ?_
    refine SW.seqRun tok hO (by cbv <;> rfl) (by trivial) ?_
    refine SW.ret ⟨_, _, rfl, rfl, long (hlong (.inl ?_)) _ _ rfl⟩
    have : (8 : Int) < f.nb := by subst hO; simpa [std] using h1
    omega
  have k1' : (f.nb : Int) ≤ 8 := by subst hO; simpa [std] using h1
  have k1 : f.nb ≤ 8 := by omega
  refine OpsW.splitG (by cbv <;> rfl) (fun h2 => ?_) (fun h2 => ?_) <;> refine OpsW.run tok hO (by cbv <;> rfl) (by trivial) ?_
  · refine SW.cond (t := true) (by cbv <;> rfl) ?_
    refine SW.seqRun tok hO (by cbv <;> rfl) (by trivial) ?_
    refine SW.ret ⟨_, _, rfl, rfl, long (hlong (.inr (.inl ?_))) _ _ rfl⟩
    have : (4 : Int) < f.ns := by subst hO; simpa [std] using h2
    omega
  have k2' : (f.ns : Int) ≤ 4 := by subst hO; simpa [std] using h2
  have k2 : f.ns ≤ 4 := by omega
  refine SW.condS (by cbv <;> rfl) (fun h3 => ?_) (fun h3 => SW.skip ?_)
  · refine SW.seqRun tok hO (by cbv <;> rfl) (by trivial) ?_
    refine SW.ret ⟨_, _, rfl, rfl, long (hlong (.inr (.inr ?_))) _ _ rfl⟩
    have : (5 : Int) < f.nl := by subst hO; simpa [std] using h3
    omega
  have k3' : (f.nl : Int) ≤ 5 := by subst hO; simpa [std] using h3
  have k3 : f.nl ≤ 5 := by omega
  have hl : f.long = false := by
    simp only [FarmD.long, Bool.or_eq_false_iff, decide_eq_false_iff_not]; omega
  clear h1 h2 h3
  -- a bed at least
  refine SW.seq ?_
  refine SW.seqRun tok hO (by cbv <;> rfl) (by trivial) ?_
  refine SW.condS (by cbv <;> rfl) (fun h1 => ?_) (fun h1 => SW.skip ?_)
  · refine SW.seqRun tok hO (by cbv <;> rfl) (by trivial) ?_
    refine SW.ret ⟨_, _, rfl, rfl, bad hl ?_ _ _ rfl⟩
    have : f.nb = 0 := by
      have : (f.nb : Int) = 0 := by subst hO; simpa [std] using h1
      omega
    simp [FarmD.validB, this]
  have hpos : 0 < f.nb := by
    have : ¬ (f.nb : Int) = 0 := by subst hO; simpa [std] using h1
    omega
  -- the beds
  refine SW.seq ?_
  refine SW.seqRun tok hO (by cbv <;> rfl) (by trivial) ?_
  refine (SW.block (SW.loopF (fun i : Nat => ⟨⟨127, getT [(1, .ptr 0 0), (3, iV i)]⟩, []⟩) (fun _ => ⟨[(0, .cells none false [springsV f, bedsV f, looksV f])], 1⟩) (fun i => f.nb - i) (fun i => i ≤ f.nb ∧ ∀ j, j < i → f.bedOk j = true) 0
    (fun _ => rfl) ⟨Nat.zero_le _, fun j hj => absurd hj (Nat.not_lt_zero j)⟩ (Weak.by rfl rfl (by simp) (Nat.le_refl _) (Nat.le_refl _) ⟨⟨rfl, .inl rfl⟩, ⟨rfl, .inl rfl⟩, trivial⟩ ⟨⟨rfl, by omega, .inl rfl⟩, trivial⟩) fun i ⟨hi, hall⟩ => ?_))
  refine SW.seq ?_
  refine SW.seqRun tok hO (by cbv <;> rfl) (by trivial) ?_
  refine SW.condS (by cbv <;> rfl) (fun h => SW.skip ?_) (fun h => SW.exit ?_)
  · have hlt : i < f.nb := by subst hO; simpa [std] using h
    have h0 : (0 : Int) ≤ Int.ofNat i := Int.natCast_nonneg i
    have hnat : O.nat (Int.ofNat i) = i := by subst hO; rfl
    have badb : f.bedOk i = false → f.validB = false := fun hb => by
      simp [FarmD.validB, allN_false hlt hb]
    have nextb : f.bedOk i = true → ∀ j, j < i + 1 → f.bedOk j = true := fun hb j hj => by
      rcases Nat.lt_succ_iff_lt_or_eq.1 hj with hj | rfl
      · exact hall j hj
      · exact hb
    refine SW.seq (SW.block ?_)
    refine SW.seqRun tok hO (by cbv <;> rfl) ?_ ?_
    · exact ⟨h0, Int.ofNat_lt.2 hlt⟩
    refine SW.seqRun tok hO (by cbv <;> rfl) (by trivial) ?_
    refine OpsW.callB (in_ok (f.need (O.nat (Int.ofNat i))) 0 9) (by cbv <;> rfl) fun b1 hb1 => ?_
    rw [hnat] at hb1
    refine OpsW.run tok hO (by cbv <;> rfl) (by trivial) ?_
    refine OpsW.splitG (by cbv <;> rfl) (fun h1 => ?_) (fun h1 => ?_) <;> refine OpsW.run tok hO (by cbv <;> rfl) (by trivial) ?_
    · have hbb : f.bedOk i = false := by
        rw [show b1 = false by simpa using (hnot b1).symm.trans h1] at hb1
        simp only [FarmD.bedOk, notchB]; rw [show (decide (0 ≤ f.need i) && decide (f.need i ≤ 9)) = false from hb1.symm]; simp
      refine SW.cond (t := true) (by cbv <;> rfl) ?_
      refine SW.seqRun tok hO (by cbv <;> rfl) (by trivial) ?_
      exact SW.ret ⟨_, _, rfl, rfl, bad hl (badb hbb) _ _ rfl⟩
    rw [show b1 = true by simpa using (hnot b1).symm.trans h1] at hb1
    refine OpsW.callB (in_ok (f.notch (O.nat (Int.ofNat i))) 0 9) (by cbv <;> rfl) fun b2 hb2 => ?_
    rw [hnat] at hb2
    refine OpsW.run tok hO (by cbv <;> rfl) (by trivial) ?_
    refine OpsW.splitG (by cbv <;> rfl) (fun h2 => ?_) (fun h2 => ?_) <;> refine OpsW.run tok hO (by cbv <;> rfl) (by trivial) ?_
    · have hbb : f.bedOk i = false := by
        rw [show b2 = false by simpa using (hnot b2).symm.trans h2] at hb2
        simp only [FarmD.bedOk, notchB]; rw [show (decide (0 ≤ f.notch i) && decide (f.notch i ≤ 9)) = false from hb2.symm]; simp
      refine SW.cond (t := true) (by cbv <;> rfl) ?_
      refine SW.seqRun tok hO (by cbv <;> rfl) (by trivial) ?_
      exact SW.ret ⟨_, _, rfl, rfl, bad hl (badb hbb) _ _ rfl⟩
    rw [show b2 = true by simpa using (hnot b2).symm.trans h2] at hb2
    have e1 : notchB (f.need i) = true := hb1.symm
    have e2 : notchB (f.notch i) = true := hb2.symm
    have inv : ∀ (x' : Nat), x' = i + 1 → f.bedOk i = true → f.nb - x' < f.nb - i ∧ x' ≤ f.nb ∧ ∀ j, j < x' → f.bedOk j = true := fun x' hx hb => by
      subst hx; exact ⟨by omega, by omega, nextb hb⟩
    refine OpsW.splitG (by cbv <;> rfl) (fun h3 => ?_) (fun h3 => ?_) <;> refine OpsW.run tok hO (by cbv <;> rfl) (by trivial) ?_
    · have hd : ¬ f.down i = -1 := by subst hO; simpa [std] using h3
      refine OpsW.callB (in_ok (f.down (O.nat (Int.ofNat i))) (O.bin .add .i64 (Int.ofNat i) 1) (O.bin .sub .i64 (Int.ofNat f.nb) 1)) (by cbv <;> rfl) fun b3 hb3 => ?_
      rw [hnat, add1_ok hO (by omega), sub1_ok hO hsb] at hb3
      refine OpsW.run tok hO (by cbv <;> rfl) (by trivial) ?_
      have hiff : f.bedOk i = b3 := by
        rw [Bool.eq_iff_iff, hb3]
        simp only [FarmD.bedOk, e1, e2, inB, FarmD.hasB, Bool.and_eq_true, Bool.or_eq_true, decide_eq_true_eq, Bool.true_and]
        omega
      refine SW.condS (by cbv <;> rfl) (fun h4 => ?_) (fun h4 => SW.skip ?_)
      · refine SW.seqRun tok hO (by cbv <;> rfl) (by trivial) ?_
        exact SW.ret ⟨_, _, rfl, rfl, bad hl (badb (by rw [hiff]; simpa using (hnot b3).symm.trans h4)) _ _ rfl⟩
      · refine SW.run tok hO (by cbv <;> rfl) (by trivial) ?_
        obtain ⟨p1, p2, p3⟩ := inv _ rfl (by rw [hiff]; simpa using (hnot b3).symm.trans h4)
        exact ⟨i + 1, p1, ⟨p2, p3⟩, Weak.by rfl rfl (by simp) (Nat.le_refl _) (by show 1 ≤ 2; omega) ⟨⟨rfl, .inr (Below.ptr (by omega))⟩, ⟨inc_ok hO (by omega), .inr Below.lit⟩, trivial⟩ ⟨⟨rfl, by omega, .inr ⟨AllB.ok ⟨Below.up (m := 0) (springsV_below f), Below.up (m := 0) (bedsV_below f), Below.up (m := 0) (looksV_below f), trivial⟩, fun _ h => by cases h⟩⟩, trivial⟩⟩
    · have hd : f.down i = -1 := by subst hO; simpa [std] using h3
      refine SW.cond (t := false) (by cbv <;> rfl) (SW.skip ?_)
      refine SW.run tok hO (by cbv <;> rfl) (by trivial) ?_
      obtain ⟨p1, p2, p3⟩ := inv _ rfl (by simp [FarmD.bedOk, e1, e2, hd])
      exact ⟨i + 1, p1, ⟨p2, p3⟩, Weak.by rfl rfl (by simp) (Nat.le_refl _) (by show 1 ≤ 2; omega) ⟨⟨rfl, .inr (Below.ptr (by omega))⟩, ⟨inc_ok hO (by omega), .inr Below.lit⟩, trivial⟩ ⟨⟨rfl, by omega, .inr ⟨AllB.ok ⟨Below.up (m := 0) (springsV_below f), Below.up (m := 0) (bedsV_below f), Below.up (m := 0) (looksV_below f), trivial⟩, fun _ h => by cases h⟩⟩, trivial⟩⟩
  have hge : f.nb ≤ i := by subst hO; simpa [std] using h
  have hbeds : allN f.nb f.bedOk = true := allN_true fun j hj => hall j (by omega)
  -- hsprings
  refine SW.seq ?_
  refine SW.seqRun tok hO (by cbv <;> rfl) (by trivial) ?_
  refine (SW.block (SW.loopF (fun i : Nat => ⟨⟨127, getT [(1, .ptr 0 0), (5, iV i)]⟩, []⟩) (fun _ => ⟨[(0, .cells none false [springsV f, bedsV f, looksV f])], 1⟩) (fun i => f.ns - i) (fun i => i ≤ f.ns ∧ ∀ j, j < i → f.springOk j = true) 0
    (fun _ => rfl) ⟨Nat.zero_le _, fun j hj => absurd hj (Nat.not_lt_zero j)⟩ (Weak.by rfl rfl (by simp) (Nat.le_refl _) (Nat.le_refl _) ⟨⟨rfl, .inl rfl⟩, ⟨rfl, .inl rfl⟩, trivial⟩ ⟨⟨rfl, by omega, .inl rfl⟩, trivial⟩) fun i ⟨hi, hall⟩ => ?_))
  refine SW.seq ?_
  refine SW.seqRun tok hO (by cbv <;> rfl) (by trivial) ?_
  refine SW.condS (by cbv <;> rfl) (fun h => SW.skip ?_) (fun h => SW.exit ?_)
  · have hlt : i < f.ns := by subst hO; simpa [std] using h
    have h0 : (0 : Int) ≤ Int.ofNat i := Int.natCast_nonneg i
    have hnat : O.nat (Int.ofNat i) = i := by subst hO; rfl
    have badb : f.springOk i = false → f.validB = false := fun hb => by
      simp [FarmD.validB, allN_false hlt hb]
    have nextb : f.springOk i = true → ∀ j, j < i + 1 → f.springOk j = true := fun hb j hj => by
      rcases Nat.lt_succ_iff_lt_or_eq.1 hj with hj | rfl
      · exact hall j hj
      · exact hb
    refine SW.seq (SW.block ?_)
    refine SW.seqRunD tok mixed hO (by rfl) (by cbv <;> rfl) ?_ ?_
    · exact ⟨h0, Int.ofNat_lt.2 hlt⟩
    refine AnyE.callD (in_ok (f.sb (O.nat (Int.ofNat i))) 0 (O.bin .sub .i64 (Int.ofNat f.nb) 1)) (by cbv <;> rfl) (by cbv <;> rfl) (fun h1 => ?_) (fun h1 => ?_)
    · rw [hnat, sub1_ok hO hsb] at h1
      have e1 : f.hasB (f.sb i) = true := by
        simp only [inB, Bool.and_eq_true, decide_eq_true_eq] at h1
        simp only [FarmD.hasB, Bool.and_eq_true, decide_eq_true_eq]; omega
      refine AnyE.run tok hO (by rfl) (by cbv <;> rfl) ?_ ?_
      · exact ⟨h0, Int.ofNat_lt.2 hlt⟩
      refine AnyE.callD (within1_ok (f.slo (O.nat (Int.ofNat i))) (f.shi (O.nat (Int.ofNat i))) 0 30) (by cbv <;> rfl) (by cbv <;> rfl) (fun h2 => ?_) (fun h2 => ?_)
      · rw [hnat] at h2
        have hb : f.springOk i = true := by simp only [FarmD.springOk, e1, h2, Bool.and_self]
        refine AnyE.run tok hO (by rfl) (by cbv <;> rfl) (by trivial) ?_
        refine SW.cond (t := false) (by cbv <;> rfl) (SW.skip ?_)
        refine SW.run tok hO (by cbv <;> rfl) (by trivial) ?_
        exact ⟨i + 1, by omega, ⟨by omega, nextb hb⟩, Weak.by rfl rfl (by simp) (Nat.le_refl _) (Nat.le_refl _) ⟨⟨rfl, .inl rfl⟩, ⟨inc_ok hO (by omega), .inl rfl⟩, trivial⟩ ⟨⟨rfl, by omega, .inl rfl⟩, trivial⟩⟩
      · rw [hnat] at h2
        have hb : f.springOk i = false := by simp only [FarmD.springOk, h2, Bool.and_false]
        refine AnyE.run tok hO (by rfl) (by cbv <;> rfl) (by trivial) ?_
        refine SW.cond (t := true) (by cbv <;> rfl) ?_
        refine SW.seqRun tok hO (by cbv <;> rfl) (by trivial) ?_
        exact SW.ret ⟨_, _, rfl, rfl, bad hl (badb hb) _ _ rfl⟩
    · rw [hnat, sub1_ok hO hsb] at h1
      have e1 : f.hasB (f.sb i) = false := by
        rw [← Bool.not_eq_true] at h1 ⊢
        simp only [inB, Bool.and_eq_true, decide_eq_true_eq] at h1
        simp only [FarmD.hasB, Bool.and_eq_true, decide_eq_true_eq]; omega
      have hb : f.springOk i = false := by simp only [FarmD.springOk, e1, Bool.false_and]
      refine AnyE.run tok hO (by rfl) (by cbv <;> rfl) (by trivial) ?_
      refine SW.cond (t := true) (by cbv <;> rfl) ?_
      refine SW.seqRun tok hO (by cbv <;> rfl) (by trivial) ?_
      exact SW.ret ⟨_, _, rfl, rfl, bad hl (badb hb) _ _ rfl⟩
  have hge : f.ns ≤ i := by subst hO; simpa [std] using h
  have hsprings : allN f.ns f.springOk = true := allN_true fun j hj => hall j (by omega)

  -- hlooks
  refine SW.seq ?_
  refine SW.seqRun tok hO (by cbv <;> rfl) (by trivial) ?_
  refine (SW.block (SW.loopF (fun i : Nat => ⟨⟨127, getT [(1, .ptr 0 0), (6, iV i)]⟩, []⟩) (fun _ => ⟨[(0, .cells none false [springsV f, bedsV f, looksV f])], 1⟩) (fun i => f.nl - i) (fun i => i ≤ f.nl ∧ ∀ j, j < i → f.lookOk j = true) 0
    (fun _ => rfl) ⟨Nat.zero_le _, fun j hj => absurd hj (Nat.not_lt_zero j)⟩ (Weak.by rfl rfl (by simp) (Nat.le_refl _) (Nat.le_refl _) ⟨⟨rfl, .inl rfl⟩, ⟨rfl, .inl rfl⟩, trivial⟩ ⟨⟨rfl, by omega, .inl rfl⟩, trivial⟩) fun i ⟨hi, hall⟩ => ?_))
  refine SW.seq ?_
  refine SW.seqRun tok hO (by cbv <;> rfl) (by trivial) ?_
  refine SW.condS (by cbv <;> rfl) (fun h => SW.skip ?_) (fun h => SW.exit ?_)
  · have hlt : i < f.nl := by subst hO; simpa [std] using h
    have h0 : (0 : Int) ≤ Int.ofNat i := Int.natCast_nonneg i
    have hnat : O.nat (Int.ofNat i) = i := by subst hO; rfl
    have badb : f.lookOk i = false → f.validB = false := fun hb => by
      simp [FarmD.validB, allN_false hlt hb]
    have nextb : f.lookOk i = true → ∀ j, j < i + 1 → f.lookOk j = true := fun hb j hj => by
      rcases Nat.lt_succ_iff_lt_or_eq.1 hj with hj | rfl
      · exact hall j hj
      · exact hb
    refine SW.seq (SW.block ?_)
    refine SW.seqRunD tok mixed hO (by rfl) (by cbv <;> rfl) ?_ ?_
    · exact ⟨h0, Int.ofNat_lt.2 hlt⟩
    refine AnyE.callD (in_ok (f.lb (O.nat (Int.ofNat i))) 0 (O.bin .sub .i64 (Int.ofNat f.nb) 1)) (by cbv <;> rfl) (by cbv <;> rfl) (fun h1 => ?_) (fun h1 => ?_)
    · rw [hnat, sub1_ok hO hsb] at h1
      have e1 : f.hasB (f.lb i) = true := by
        simp only [inB, Bool.and_eq_true, decide_eq_true_eq] at h1
        simp only [FarmD.hasB, Bool.and_eq_true, decide_eq_true_eq]; omega
      refine AnyE.run tok hO (by rfl) (by cbv <;> rfl) ?_ ?_
      · exact ⟨h0, Int.ofNat_lt.2 hlt⟩
      refine AnyE.callD (within1_ok (f.llo (O.nat (Int.ofNat i))) (f.lhi (O.nat (Int.ofNat i))) 0 120) (by cbv <;> rfl) (by cbv <;> rfl) (fun h2 => ?_) (fun h2 => ?_)
      · rw [hnat] at h2
        have hb : f.lookOk i = true := by simp only [FarmD.lookOk, e1, h2, Bool.and_self]
        refine AnyE.run tok hO (by rfl) (by cbv <;> rfl) (by trivial) ?_
        refine SW.cond (t := false) (by cbv <;> rfl) (SW.skip ?_)
        refine SW.run tok hO (by cbv <;> rfl) (by trivial) ?_
        exact ⟨i + 1, by omega, ⟨by omega, nextb hb⟩, Weak.by rfl rfl (by simp) (Nat.le_refl _) (Nat.le_refl _) ⟨⟨rfl, .inl rfl⟩, ⟨inc_ok hO (by omega), .inl rfl⟩, trivial⟩ ⟨⟨rfl, by omega, .inl rfl⟩, trivial⟩⟩
      · rw [hnat] at h2
        have hb : f.lookOk i = false := by simp only [FarmD.lookOk, h2, Bool.and_false]
        refine AnyE.run tok hO (by rfl) (by cbv <;> rfl) (by trivial) ?_
        refine SW.cond (t := true) (by cbv <;> rfl) ?_
        refine SW.seqRun tok hO (by cbv <;> rfl) (by trivial) ?_
        exact SW.ret ⟨_, _, rfl, rfl, bad hl (badb hb) _ _ rfl⟩
    · rw [hnat, sub1_ok hO hsb] at h1
      have e1 : f.hasB (f.lb i) = false := by
        rw [← Bool.not_eq_true] at h1 ⊢
        simp only [inB, Bool.and_eq_true, decide_eq_true_eq] at h1
        simp only [FarmD.hasB, Bool.and_eq_true, decide_eq_true_eq]; omega
      have hb : f.lookOk i = false := by simp only [FarmD.lookOk, e1, Bool.false_and]
      refine AnyE.run tok hO (by rfl) (by cbv <;> rfl) (by trivial) ?_
      refine SW.cond (t := true) (by cbv <;> rfl) ?_
      refine SW.seqRun tok hO (by cbv <;> rfl) (by trivial) ?_
      exact SW.ret ⟨_, _, rfl, rfl, bad hl (badb hb) _ _ rfl⟩
  have hge : f.nl ≤ i := by subst hO; simpa [std] using h
  have hlooks : allN f.nl f.lookOk = true := allN_true fun j hj => hall j (by omega)

  have hv : f.validB = true := by simp [FarmD.validB, hpos, hbeds, hsprings, hlooks]
  refine SW.seq ?_
  refine SW.seqRun tok hO (by cbv <;> rfl) (by trivial) ?_
  refine OpsW.callI (many_ok f ⟨hsb, hss, hsl⟩) (by cbv <;> rfl) fun n hn => ?_
  refine OpsW.run tok hO (by cbv <;> rfl) (by trivial) ?_
  refine SW.condS (by cbv <;> rfl) (fun h3 => ?_) (fun h3 => SW.skip ?_)
  · refine SW.seqRun tok hO (by cbv <;> rfl) (by trivial) ?_
    have : 2000 < f.manyN f.ns := by subst hO; simpa [std, hn] using h3
    refine SW.ret ⟨_, _, rfl, rfl, Eqv.int ?_⟩
    simp [FarmD.faultN, hl, hv, this]
  · have : ¬ 2000 < f.manyN f.ns := by subst hO; simpa [std, hn] using h3
    refine SW.seqRun tok hO (by cbv <;> rfl) (by trivial) ?_
    refine SW.ret ⟨_, _, rfl, rfl, Eqv.int ?_⟩
    simp [FarmD.faultN, hl, hv, this]
end Go.Fz

/-
  Thin; list. Own work of the verifier of watercress.
-/
namespace Go.Fz
open Go.Proofs
set_option maxRecDepth 100000

def FarmD.thinB (f : FarmD) : Bool := decide (f.nb ≤ 10) && decide (f.ns ≤ 6) && decide (f.nl ≤ 7) && (decide (f.faultN ≠ 0) || decide (f.manyN f.ns ≤ 150))

set_option maxHeartbeats 4000000 in
theorem thin_ok (f : FarmD) : Pure Try.prog 18 [farmV f] (.sb f.thinB) := by
  obtain ⟨O, hO⟩ : ∃ O : Ar, O = std := ⟨_, rfl⟩
  refine pure_of_body tok 3 Try.func18 en18 rfl ⟨farmV_below f, trivial⟩ Below.sb ?_
  refine SW.seqRun tok hO (by cbv <;> rfl) (by trivial) ?_
  refine SW.seqRun tok hO (by cbv <;> rfl) (by trivial) ?_
  refine OpsW.splitG (by cbv <;> rfl) (fun h1 => ?_) (fun h1 => ?_) <;> refine OpsW.run tok hO (by cbv <;> rfl) (by trivial) ?_
  rotate_left
  · have : ¬ (f.nb : Int) ≤ 10 := by subst hO; simpa [std] using h1
    refine SW.ret ⟨_, _, rfl, rfl, Eqv.bool ?_⟩
    have : ¬ f.nb ≤ 10 := by omega
    simp [FarmD.thinB, this]
  have k1' : (f.nb : Int) ≤ 10 := by subst hO; simpa [std] using h1
  have k1 : f.nb ≤ 10 := by omega
  refine OpsW.splitG (by cbv <;> rfl) (fun h2 => ?_) (fun h2 => ?_) <;> refine OpsW.run tok hO (by cbv <;> rfl) (by trivial) ?_
  rotate_left
  · have : ¬ (f.ns : Int) ≤ 6 := by subst hO; simpa [std] using h2
    refine SW.ret ⟨_, _, rfl, rfl, Eqv.bool ?_⟩
    have : ¬ f.ns ≤ 6 := by omega
    simp [FarmD.thinB, this]
  have k2' : (f.ns : Int) ≤ 6 := by subst hO; simpa [std] using h2
  have k2 : f.ns ≤ 6 := by omega
  refine OpsW.splitG (by cbv <;> rfl) (fun h3 => ?_) (fun h3 => ?_) <;> refine OpsW.run tok hO (by cbv <;> rfl) (by trivial) ?_
  rotate_left
  · have : ¬ (f.nl : Int) ≤ 7 := by subst hO; simpa [std] using h3
    refine SW.ret ⟨_, _, rfl, rfl, Eqv.bool ?_⟩
    have : ¬ f.nl ≤ 7 := by omega
    simp [FarmD.thinB, this]
  have k3' : (f.nl : Int) ≤ 7 := by subst hO; simpa [std] using h3
  have k3 : f.nl ≤ 7 := by omega
  have hs : f.small := ⟨by omega, by omega, by omega⟩
  refine OpsW.callI (fault_ok f hs) (by cbv <;> rfl) fun e he => ?_
  refine OpsW.run tok hO (by cbv <;> rfl) (by trivial) ?_
  refine OpsW.splitG (by cbv <;> rfl) (fun h4 => ?_) (fun h4 => ?_) <;> refine OpsW.run tok hO (by cbv <;> rfl) (by trivial) ?_
  · have : f.faultN ≠ 0 := by subst hO; rw [← he]; simpa [std] using h4
    refine SW.ret ⟨_, _, rfl, rfl, Eqv.bool ?_⟩
    simp [FarmD.thinB, this, k1, k2, k3]
  · have h5 : ¬ f.faultN ≠ 0 := by subst hO; rw [← he]; simpa [std] using h4
    refine OpsW.callI (many_ok f hs) (by cbv <;> rfl) fun m hm => ?_
    refine OpsW.run tok hO (by cbv <;> rfl) (by trivial) ?_
    refine SW.ret ⟨_, _, rfl, rfl, Eqv.sb ?_⟩
    subst hO
    simp [FarmD.thinB, k1, k2, k3, h5, std, ← hm]

/-! ### list -/
theorem flatG_ints (fl : Nat → Int) : ∀ n, (flatG 1 (intC fl) n).all AV.one = true
  | 0 => rfl
  | n + 1 => by
    simp only [flatG, List.all_append, flatG_ints fl n, Bool.true_and]
    rfl

theorem list_app (n : Nat) (ex : Bool) (fl : Nat → Int) (h0 : 0 < n) (hn : n < 1000) (st : St) :
    appendA T st 27 27 (.lit (.slice none 0 0)) (intsV n ex fl) = some (.sl st.n 0 n 1 false, st.push (.cells none false (flatG 1 (intC fl) n))) := by
  obtain ⟨b1, e1⟩ : ∃ b, T 27 = some { desc := .slice 3, size := 1, bytes := 24, zero := [.slice none 0 0], flat := b } := ⟨_, rfl⟩
  obtain ⟨b2, e2⟩ : ∃ b, T 3 = some { desc := .int .i64, size := 1, bytes := 8, zero := [.int .i64 0], flat := b } := ⟨_, rfl⟩
  have hall := flatG_ints fl n
  unfold appendA
  simp only [e1, e2, slCells, intsV, slLen]
  rw [if_pos ⟨trivial, by decide⟩]
  simp only [Nat.zero_add]
  rw [if_neg (by rw [hall]; simp; omega)]
  exact if_neg (by omega)
theorem list_app0 (ex : Bool) (fl : Nat → Int) (st : St) : appendA T st 27 27 (.lit (.slice none 0 0)) (intsV 0 ex fl) = some (.lit (.slice none 0 0), st) := by
  obtain ⟨b1, e1⟩ : ∃ b, T 27 = some { desc := .slice 3, size := 1, bytes := 24, zero := [.slice none 0 0], flat := b } := ⟨_, rfl⟩
  obtain ⟨b2, e2⟩ : ∃ b, T 3 = some { desc := .int .i64, size := 1, bytes := 8, zero := [.int .i64 0], flat := b } := ⟨_, rfl⟩
  unfold appendA
  simp only [e1, e2, slCells, intsV, slLen]
  rfl

theorem list_ok (n : Nat) (ex : Bool) (fl : Nat → Int) (hn : n < 1000) : Pure Try.prog 22 [intsV n ex fl] (intsV n false fl) := by
  refine pure_of_body tok 3 Try.func22 en22 rfl ⟨intsV_below n ex fl, trivial⟩ (intsV_below n false fl) ?_
  obtain ⟨O, hO⟩ : ∃ O : Ar, O = std := ⟨_, rfl⟩
  refine SW.seqRun tok hO (by cbv <;> rfl) (by trivial) ?_
  refine SW.seq (SW.regionL (l := [0, 1, 2]) rfl ?_)
  refine OpsW.light tok rfl rfl (r := intsV n ex fl) (by rfl) ?_
  rcases Nat.eq_zero_or_pos n with hz | hz
  · subst hz
    refine OpsW.append tok rfl rfl (r := .lit (.slice none 0 0)) (st' := ⟨[], 0⟩) (by exact list_app0 ex fl _) ?_
    refine OpsW.light tok rfl rfl (r := .lit (.slice none 0 0)) (by rfl) ?_
    refine OpsW.nil ?_
    exact SW.ret ⟨_, _, rfl, rfl, Eqv.nil⟩
  · refine OpsW.append tok rfl rfl (r := .sl 0 0 n 1 false) (st' := ⟨[(0, .cells none false (flatG 1 (intC fl) n))], 1⟩) (by exact list_app n ex fl hz hn _) ?_
    refine OpsW.light tok rfl rfl (r := .sl 0 0 n 1 false) (by rfl) ?_
    refine OpsW.nil ?_
    refine SW.ret ⟨_, _, rfl, rfl, ?_⟩
    show Eqv (if 0 + n * 1 ≤ (flatG 1 (intC fl) n).length then _ else _) _
    rw [if_pos (by rw [flatG_length]; omega)]
    refine Eqv.isl rfl fun i k hi hk => ?_
    obtain rfl : k = 0 := by omega
    have hget := flatG_get 1 (intC fl) n i 0 hi (by omega)
    refine Eqv.of ?_
    have : (flatG 1 (intC fl) n).getD (0 + i * 1 + 0) .any = iV (fl i) := by
      rw [List.getD_eq_getElem?_getD, show 0 + i * 1 + 0 = i * 1 + 0 by omega, hget]; rfl
    rw [this]; rfl
end Go.Fz

/-
  The statements' own functions of layer 1: IsListed. Own work of the verifier of watercress.
-/
namespace Go.Fz
open Go.Proofs
set_option maxRecDepth 100000

def FarmD.listedB (f : FarmD) (n : Nat) (fl : Nat → Int) : Bool := decide (n = f.ns) && allN f.ns fun i => inB (fl i) (f.slo i) (f.shi i)

set_option maxHeartbeats 4000000 in
theorem isListed_ok (f : FarmD) (hs : f.small) (n : Nat) (ex : Bool) (fl : Nat → Int) (hn : n < 1000) : Pure Try.prog 27 [farmV f, intsV n ex fl] (.sb (f.listedB n fl)) := by
  obtain ⟨O, hO⟩ : ∃ O : Ar, O = std := ⟨_, rfl⟩
  have hns := hs.2.1
  refine pure_of_body tok 3 Try.func27 en27 rfl ⟨farmV_below f, intsV_below n ex fl, trivial⟩ Below.sb ?_
  refine SW.seqRun tok hO (by cbv <;> rfl) (by trivial) ?_
  refine SW.seq ?_
  refine SW.seqRun tok hO (by cbv <;> rfl) (by trivial) ?_
  refine (SW.block (SW.loopF (fun i : Nat => ⟨⟨45, getT [(1, intsV n ex fl), (2, .ptr 0 0), (4, .lit (.bool false)), (5, iV i)]⟩, []⟩) (fun _ => ⟨[(0, .cells none false [springsV f, bedsV f, looksV f])], 1⟩) (fun i => n - i)
    (fun i => i ≤ n ∧ i ≤ f.ns ∧ ∀ j, j < i → inB (fl j) (f.slo j) (f.shi j) = true) 0
    (fun _ => rfl) ⟨Nat.zero_le _, Nat.zero_le _, fun j hj => absurd hj (Nat.not_lt_zero j)⟩ (Weak.by rfl rfl (by simp) (Nat.le_refl _) (Nat.le_refl _) ⟨⟨rfl, .inl rfl⟩, ⟨rfl, .inl rfl⟩, ⟨rfl, .inl rfl⟩, ⟨rfl, .inl rfl⟩, trivial⟩ ⟨⟨rfl, by omega, .inl rfl⟩, trivial⟩) fun i ⟨hi1, hi2, hall⟩ => ?_))
  have finish : i = n ∨ i = f.ns → decide (n = f.ns) = f.listedB n fl := fun hor => by
    by_cases he : n = f.ns
    · have : i = f.ns := by omega
      subst this
      unfold FarmD.listedB
      rw [allN_true fun j hj => hall j hj]; simp
    · unfold FarmD.listedB; simp [he]
  refine SW.seq ?_
  refine SW.seqRun tok hO (by cbv <;> rfl) (by trivial) ?_
  refine OpsW.splitG (by cbv <;> rfl) (fun h => ?_) (fun h => ?_) <;> refine OpsW.run tok hO (by cbv <;> rfl) (by trivial) ?_
  · have hlt : i < n := by subst hO; simpa [std] using h
    refine SW.condS (by cbv <;> rfl) (fun h => SW.skip ?_) (fun h => SW.exit ?_)
    · have hlt' : i < f.ns := by subst hO; simpa [std] using h
      have h0 : (0 : Int) ≤ Int.ofNat i := Int.natCast_nonneg i
      have hnat : O.nat (Int.ofNat i) = i := by subst hO; rfl
      refine SW.seq (SW.block ?_)
      refine SW.seqRunD tok mixed hO (by rfl) (by cbv <;> rfl) ?_ ?_
      · exact ⟨⟨h0, Int.ofNat_lt.2 hlt'⟩, ⟨h0, Int.ofNat_lt.2 hlt'⟩, ⟨h0, Int.ofNat_lt.2 hlt⟩⟩
      refine AnyE.callD (in_ok (fl (O.nat (Int.ofNat i))) (f.slo (O.nat (Int.ofNat i))) (f.shi (O.nat (Int.ofNat i)))) (by cbv <;> rfl) (by cbv <;> rfl) (fun hb => ?_) (fun hb => ?_) <;> rw [hnat] at hb
      · refine AnyE.run tok hO (by rfl) (by cbv <;> rfl) (by trivial) ?_
        refine SW.cond (t := false) (by cbv <;> rfl) (SW.skip ?_)
        refine SW.run tok hO (by cbv <;> rfl) (by trivial) ?_
        refine ⟨i + 1, by omega, ⟨by omega, by omega, fun j hj => ?_⟩, Weak.by rfl rfl (by simp) (Nat.le_refl _) (Nat.le_refl _) ⟨⟨rfl, .inl rfl⟩, ⟨rfl, .inl rfl⟩, ⟨rfl, .inl rfl⟩, ⟨inc_ok hO (by omega), .inl rfl⟩, trivial⟩ ⟨⟨rfl, by omega, .inl rfl⟩, trivial⟩⟩
        rcases Nat.lt_succ_iff_lt_or_eq.1 hj with hj | rfl
        · exact hall j hj
        · exact hb
      · refine AnyE.run tok hO (by rfl) (by cbv <;> rfl) (by trivial) ?_
        refine SW.cond (t := true) (by cbv <;> rfl) ?_
        refine SW.seqRun tok hO (by cbv <;> rfl) (by trivial) ?_
        refine SW.ret ⟨_, _, rfl, rfl, Eqv.bool ?_⟩
        unfold FarmD.listedB
        rw [allN_false (p := fun i => inB (fl i) (f.slo i) (f.shi i)) hlt' hb]; simp
    · have hge : f.ns ≤ i := by subst hO; simpa [std] using h
      refine SW.seqRun tok hO (by cbv <;> rfl) (by trivial) ?_
      refine SW.ret ⟨_, _, rfl, rfl, Eqv.sb ?_⟩
      rw [← finish (.inr (by omega))]; subst hO; show decide ((n : Int) = (f.ns : Int)) = decide (n = f.ns); exact decide_eq_decide.2 (by omega)
  · have hge : n ≤ i := by subst hO; simpa [std] using h
    refine SW.cond (t := false) (by cbv <;> rfl) (SW.exit ?_)
    refine SW.seqRun tok hO (by cbv <;> rfl) (by trivial) ?_
    refine SW.ret ⟨_, _, rfl, rfl, Eqv.sb ?_⟩
    rw [← finish (.inl (by omega))]; subst hO; show decide ((n : Int) = (f.ns : Int)) = decide (n = f.ns); exact decide_eq_decide.2 (by omega)
end Go.Fz

/-
  The statements' own functions of layer 1: water. Own work of the verifier of watercress.
-/
namespace Go.Fz
open Go.Proofs
set_option maxRecDepth 100000

def maxI (a b : Int) : Int := if a < b then b else a
/-- What the springs of a bed bring. -/
def FarmD.inS (f : FarmD) (fl : Nat → Int) (bed : Nat) : Nat → Int
  | 0 => 0
  | s + 1 => if f.sb s = (bed : Int) then add64 (f.inS fl bed s) (fl s) else f.inS fl bed s
/-- ... and what the beds above it let go. -/
def FarmD.inB (f : FarmD) (fl : Nat → Int) (W : Nat → Int) (bed : Nat) : Nat → Int
  | 0 => f.inS fl bed f.ns
  | i + 1 => if f.down i = (bed : Int) then add64 (f.inB fl W bed i) (maxI 0 (sub64 (W i) (f.notch i))) else f.inB fl W bed i
def FarmD.waT (f : FarmD) (fl : Nat → Int) : Nat → Nat → Int
  | 0, _ => 0
  | k + 1, b => if b = k then f.inB fl (f.waT fl k) k k else f.waT fl k b
def FarmD.waN (f : FarmD) (fl : Nat → Int) (b : Nat) : Int := f.waT fl (b + 1) b
theorem FarmD.waT_eq (f : FarmD) (fl : Nat → Int) : ∀ (k b : Nat), b < k → f.waT fl k b = f.waN fl b
  | k + 1, b, h => by
    by_cases hb : b = k
    · subst hb; rfl
    · show (if b = k then _ else _) = _
      rw [if_neg hb]; exact f.waT_eq fl k b (by omega)
theorem FarmD.inB_eq (f : FarmD) (fl : Nat → Int) (V W : Nat → Int) (bed : Nat) : ∀ i, (∀ j, j < i → V j = W j) → f.inB fl V bed i = f.inB fl W bed i
  | 0, _ => rfl
  | i + 1, h => by
    simp only [FarmD.inB]
    rw [f.inB_eq fl V W bed i fun j hj => h j (by omega), h i (by omega)]
theorem FarmD.waN_eq (f : FarmD) (fl : Nat → Int) (b : Nat) : f.waN fl b = f.inB fl (f.waN fl) b b := by
  show (if b = b then _ else _) = _
  rw [if_pos rfl]; exact f.inB_eq fl _ _ b b fun j hj => f.waT_eq fl b j hj

set_option maxHeartbeats 4000000 in
theorem water_ok (f : FarmD) (hs : f.small) (n : Nat) (ex : Bool) (fl : Nat → Int) (hn : n < 1000) (hns : f.ns ≤ n) (bed : Nat) : bed < f.nb → Pure Try.prog 76 [farmV f, intsV n ex fl, iV bed] (iV (f.waN fl bed)) := by
  induction bed using Nat.strongRecOn with
  | _ bed ih =>
  intro hbed
  obtain ⟨O, hO⟩ : ∃ O : Ar, O = std := ⟨_, rfl⟩
  have hnb := hs.1
  refine pure_of_body tok 3 Try.func76 en76 rfl ⟨farmV_below f, intsV_below n ex fl, iV_below, trivial⟩ Below.lit ?_
  refine SW.seqRun tok hO (by cbv <;> rfl) (by trivial) ?_
  refine SW.seqRun tok hO (by cbv <;> rfl) (by trivial) ?_
  refine SW.seq ?_
  refine SW.seqRun tok hO (by cbv <;> rfl) (by trivial) ?_
  refine (SW.block (SW.loopF (fun i : Nat => ⟨⟨59, getT [(1, intsV n ex fl), (2, iV bed), (3, .ptr 0 0), (6, iV 0), (7, iV (f.inS fl bed i)), (8, iV i)]⟩, []⟩) (fun _ => ⟨[(0, .cells none false [springsV f, bedsV f, looksV f])], 1⟩) (fun i => f.ns - i) (fun i => i ≤ f.ns) 0
    (fun _ => rfl) (Nat.zero_le _) (Weak.by rfl rfl (by simp) (Nat.le_refl _) (Nat.le_refl _) ⟨⟨rfl, .inl rfl⟩, ⟨rfl, .inl rfl⟩, ⟨rfl, .inl rfl⟩, ⟨rfl, .inl rfl⟩, ⟨rfl, .inl rfl⟩, ⟨rfl, .inl rfl⟩, trivial⟩ ⟨⟨rfl, by omega, .inl rfl⟩, trivial⟩) fun i hi => ?_))
  generalize hB : f.inS fl bed i = B
  refine SW.seq ?_
  refine SW.seqRun tok hO (by cbv <;> rfl) (by trivial) ?_
  refine SW.condS (by cbv <;> rfl) (fun h => SW.skip ?_) (fun h => SW.exit ?_)
  · have hlt : i < f.ns := by subst hO; simpa [std] using h
    have h0 : (0 : Int) ≤ Int.ofNat i := Int.natCast_nonneg i
    refine SW.seq (SW.block ?_)
    refine SW.seqRun tok hO (by cbv <;> rfl) ?_ ?_
    · exact ⟨h0, Int.ofNat_lt.2 hlt⟩
    refine SW.condS (by cbv <;> rfl) (fun h' => ?_) (fun h' => SW.skip ?_)
    · refine SW.run tok hO (by cbv <;> rfl) ?_ ?_
      · exact ⟨h0, Int.ofNat_lt.2 (by omega)⟩
      refine SW.run tok hO (by cbv <;> rfl) (by trivial) ?_
      refine ⟨i + 1, by omega, by omega, Weak.by rfl rfl (by simp) (Nat.le_refl _) (Nat.le_refl _) ⟨⟨rfl, .inl rfl⟩, ⟨rfl, .inl rfl⟩, ⟨rfl, .inl rfl⟩, ⟨rfl, .inl rfl⟩, ⟨?_, .inl rfl⟩, ⟨inc_ok hO (by omega), .inl rfl⟩, trivial⟩ ⟨⟨rfl, by omega, .inl rfl⟩, trivial⟩⟩
      have hm : f.sb i = (bed : Int) := by subst hO; simpa [std] using h'
      have e : f.inS fl bed (i + 1) = add64 B (fl i) := by simp only [FarmD.inS, hm, if_true, hB]
      rw [e]; subst hO; rfl
    · refine SW.run tok hO (by cbv <;> rfl) (by trivial) ?_
      refine ⟨i + 1, by omega, by omega, Weak.by rfl rfl (by simp) (Nat.le_refl _) (Nat.le_refl _) ⟨⟨rfl, .inl rfl⟩, ⟨rfl, .inl rfl⟩, ⟨rfl, .inl rfl⟩, ⟨rfl, .inl rfl⟩, ⟨?_, .inl rfl⟩, ⟨inc_ok hO (by omega), .inl rfl⟩, trivial⟩ ⟨⟨rfl, by omega, .inl rfl⟩, trivial⟩⟩
      have hm : ¬ f.sb i = (bed : Int) := by subst hO; simpa [std] using h'
      have e : f.inS fl bed (i + 1) = B := by simp only [FarmD.inS, hm, if_false, hB]
      rw [e]; rfl
  have hin : i = f.ns := by
    have : f.ns ≤ i := by subst hO; simpa [std] using h
    omega
  refine SW.seq ?_
  refine SW.seqRun tok hO (by cbv <;> rfl) (by trivial) ?_
  refine (SW.block (SW.loopF (fun i : Nat => ⟨⟨59, getT [(1, intsV n ex fl), (2, iV bed), (3, .ptr 0 0), (6, iV 0), (7, iV (f.inB fl (f.waN fl) bed i)), (9, iV i)]⟩, []⟩) (fun _ => ⟨[(0, .cells none false [springsV f, bedsV f, looksV f])], 1⟩) (fun i => bed - i) (fun i => i ≤ bed) 0
    (fun _ => rfl) (Nat.zero_le _) (Weak.by rfl rfl (by simp) (Nat.le_refl _) (Nat.le_refl _) ⟨⟨rfl, .inl rfl⟩, ⟨rfl, .inl rfl⟩, ⟨rfl, .inl rfl⟩, ⟨rfl, .inl rfl⟩, ⟨?_, .inl rfl⟩, ⟨rfl, .inl rfl⟩, trivial⟩ ⟨⟨rfl, by omega, .inl rfl⟩, trivial⟩) fun i hi => ?_))
  · rw [← hB, hin]; rfl
  clear hB h hin
  generalize hB : f.inB fl (f.waN fl) bed i = B
  refine SW.seq ?_
  refine SW.seqRun tok hO (by cbv <;> rfl) (by trivial) ?_
  refine SW.condS (by cbv <;> rfl) (fun h => SW.skip ?_) (fun h => SW.exit ?_)
  · have hlt : i < bed := by subst hO; simpa [std] using h
    have h0 : (0 : Int) ≤ Int.ofNat i := Int.natCast_nonneg i
    have hnat : O.nat (Int.ofNat i) = i := by subst hO; rfl
    have call := ih i hlt (by omega)
    generalize hW : f.waN fl i = W at call
    refine SW.seq (SW.block ?_)
    refine SW.seqRun tok hO (by cbv <;> rfl) ?_ ?_
    · exact ⟨h0, Int.ofNat_lt.2 (show i < f.nb by omega)⟩
    refine SW.condS (by cbv <;> rfl) (fun h' => ?_) (fun h' => SW.skip ?_)
    · refine SW.runD tok mixed hO (by rfl) (by cbv <;> rfl) ?_ ?_
      · exact ⟨h0, Int.ofNat_lt.2 (show i < f.nb by omega)⟩
      refine AnyE.callI call (by cbv <;> rfl) (by cbv <;> rfl) fun v hv => ?_
      refine AnyE.run tok hO (by rfl) (by cbv <;> rfl) (by trivial) ?_
      refine AnyE.eff tok hO (by cbv <;> rfl) (by cbv <;> rfl) (by trivial) ?_
      refine AnyE.done (by rfl) ?_
      refine SW.run tok hO (by cbv <;> rfl) (by trivial) ?_
      refine ⟨i + 1, by omega, by omega, Weak.by rfl rfl (by simp) (Nat.le_refl _) (Nat.le_refl _) ⟨⟨rfl, .inl rfl⟩, ⟨rfl, .inl rfl⟩, ⟨rfl, .inl rfl⟩, ⟨rfl, .inl rfl⟩, ⟨?_, .inl rfl⟩, ⟨inc_ok hO (by omega), .inl rfl⟩, trivial⟩ ⟨⟨rfl, by omega, .inl rfl⟩, trivial⟩⟩
      have hm : f.down i = (bed : Int) := by subst hO; simpa [std] using h'
      have e : f.inB fl (f.waN fl) bed (i + 1) = add64 B (maxI 0 (sub64 W (f.notch i))) := by simp only [FarmD.inB, hm, if_true, hB, hW]
      rw [e]; subst hO; subst hv; rfl
    · refine SW.run tok hO (by cbv <;> rfl) (by trivial) ?_
      refine ⟨i + 1, by omega, by omega, Weak.by rfl rfl (by simp) (Nat.le_refl _) (Nat.le_refl _) ⟨⟨rfl, .inl rfl⟩, ⟨rfl, .inl rfl⟩, ⟨rfl, .inl rfl⟩, ⟨rfl, .inl rfl⟩, ⟨?_, .inl rfl⟩, ⟨inc_ok hO (by omega), .inl rfl⟩, trivial⟩ ⟨⟨rfl, by omega, .inl rfl⟩, trivial⟩⟩
      have hm : ¬ f.down i = (bed : Int) := by subst hO; simpa [std] using h'
      have e : f.inB fl (f.waN fl) bed (i + 1) = B := by simp only [FarmD.inB, hm, if_false, hB]
      rw [e]; rfl
  · refine SW.seqRun tok hO (by cbv <;> rfl) (by trivial) ?_
    have hge : bed ≤ i := by subst hO; simpa [std] using h
    have hib : i = bed := by omega
    refine SW.ret ⟨_, _, rfl, rfl, Eqv.int ?_⟩
    rw [← hB, hib]; exact (f.waN_eq fl bed).symm
end Go.Fz

/-
  The statements' own functions of layer 1: At. Own work of the verifier of watercress.
-/
namespace Go.Fz
open Go.Proofs
set_option maxRecDepth 100000

def atV (w d : Int) : AV := .agg [iV w, iV d, iV (sub64 w d)]

set_option maxHeartbeats 4000000 in
theorem at_ok (f : FarmD) (hs : f.small) (n : Nat) (ex : Bool) (fl : Nat → Int) (hn : n < 1000) (hns : f.ns ≤ n) (bed : Nat) (hb : bed < f.nb) :
    Pure Try.prog 28 [farmV f, intsV n ex fl, iV bed] (atV (f.waN fl bed) (minI (f.waN fl bed) (f.notch bed))) := by
  obtain ⟨O, hO⟩ : ∃ O : Ar, O = std := ⟨_, rfl⟩
  have call := water_ok f hs n ex fl hn hns bed hb
  generalize f.waN fl bed = w at call ⊢
  have h0 : (0 : Int) ≤ Int.ofNat bed := Int.natCast_nonneg bed
  refine pure_of_body tok 3 Try.func28 en28 rfl ⟨farmV_below f, intsV_below n ex fl, iV_below, trivial⟩ (Below.agg (AllB.ok ⟨Below.lit, Below.lit, Below.lit, trivial⟩)) ?_
  refine SW.seqRun tok hO (by cbv <;> rfl) (by trivial) ?_
  refine SW.seqRun tok hO (by cbv <;> rfl) (by trivial) ?_
  refine OpsW.callI call (by cbv <;> rfl) fun v hv => ?_
  refine OpsW.run tok hO (by cbv <;> rfl) (by trivial) ?_
  refine SW.seqRun tok hO (by cbv <;> rfl) ?_ ?_
  · exact ⟨h0, Int.ofNat_lt.2 hb⟩
  refine SW.seqRun tok hO (by cbv <;> rfl) (by trivial) ?_
  refine SW.ret ⟨_, _, rfl, rfl, Eqv.of ?_⟩
  subst hO; subst hv; rfl
end Go.Fz

/-
  The statements' own functions of layer 1: Right. Own work of the verifier of watercress.
-/
namespace Go.Fz
open Go.Proofs
set_option maxRecDepth 100000

def FarmD.downN (f : FarmD) (fl : Nat → Int) (b : Nat) : Int := minI (f.waN fl b) (f.notch b)
def FarmD.rightN (f : FarmD) (fl : Nat → Int) (i : Nat) : Bool :=
  if f.lov i then Go.Fz.inB (sub64 (f.waN fl (f.lb i).toNat) (f.downN fl (f.lb i).toNat)) (f.llo i) (f.lhi i) else Go.Fz.inB (f.downN fl (f.lb i).toNat) (f.llo i) (f.lhi i)

set_option maxHeartbeats 4000000 in
theorem rightN_ok (f : FarmD) (hs : f.small) (n : Nat) (ex : Bool) (fl : Nat → Int) (hn : n < 1000) (hns : f.ns ≤ n) (i : Nat) (h0 : 0 ≤ f.lb i) (h1 : f.lb i < f.nb) :
    Pure Try.prog 75 [farmV f, intsV n ex fl, lookV f i] (.sb (f.rightN fl i)) := by
  obtain ⟨O, hO⟩ : ∃ O : Ar, O = std := ⟨_, rfl⟩
  have call := at_ok f hs n ex fl hn hns (f.lb i).toNat (by omega)
  rw [show (((f.lb i).toNat : Nat) : Int) = f.lb i by omega] at call
  have hr : f.rightN fl i = if f.lov i then inB (sub64 (f.waN fl (f.lb i).toNat) (f.downN fl (f.lb i).toNat)) (f.llo i) (f.lhi i) else inB (f.downN fl (f.lb i).toNat) (f.llo i) (f.lhi i) := rfl
  rw [show minI (f.waN fl (f.lb i).toNat) (f.notch (f.lb i).toNat) = f.downN fl (f.lb i).toNat from rfl] at call
  generalize f.waN fl (f.lb i).toNat = w at call hr
  generalize f.downN fl (f.lb i).toNat = d at call hr
  unfold atV at call
  generalize sub64 w d = u at call hr
  rw [hr]
  refine pure_of_body tok 3 Try.func75 en75 rfl ⟨farmV_below f, intsV_below n ex fl, Below.agg (AllB.ok ⟨Below.lit, Below.sb, Below.lit, Below.lit, trivial⟩), trivial⟩ Below.sb ?_
  refine SW.seqRun tok hO (by cbv <;> rfl) (by trivial) ?_
  refine SW.seqRun tok hO (by cbv <;> rfl) (by trivial) ?_
  refine OpsW.callP call (by cbv <;> rfl) ?_
  refine OpsW.run tok hO (by cbv <;> rfl) (by trivial) ?_
  refine SW.seq ?_
  refine SW.seqRun tok hO (by cbv <;> rfl) (by trivial) ?_
  refine SW.condS (by cbv <;> rfl) (fun h => ?_) (fun h => SW.skip ?_)
  · refine SW.seqRun tok hO (by cbv <;> rfl) (by trivial) ?_
    refine OpsW.callB (in_ok u (f.llo i) (f.lhi i)) (by cbv <;> rfl) fun b hb => ?_
    refine OpsW.run tok hO (by cbv <;> rfl) (by trivial) ?_
    refine SW.ret ⟨_, _, rfl, rfl, Eqv.sb ?_⟩
    rw [if_pos h]; exact hb
  · refine SW.seqRun tok hO (by cbv <;> rfl) (by trivial) ?_
    refine OpsW.callB (in_ok d (f.llo i) (f.lhi i)) (by cbv <;> rfl) fun b hb => ?_
    refine OpsW.run tok hO (by cbv <;> rfl) (by trivial) ?_
    refine SW.ret ⟨_, _, rfl, rfl, Eqv.sb ?_⟩
    rw [if_neg (by rw [show f.lov i = false from h]; simp)]; exact hb
end Go.Fz

/-
  The statements' own functions of layer 1: IsTruth. Own work of the verifier of watercress.
-/
namespace Go.Fz
open Go.Proofs
set_option maxRecDepth 100000

def FarmD.truthN (f : FarmD) (n : Nat) (fl : Nat → Int) : Bool := f.listedB n fl && allN f.nl (f.rightN fl)

set_option maxHeartbeats 4000000 in
theorem isTruth_ok (f : FarmD) (hs : f.small) (n : Nat) (ex : Bool) (fl : Nat → Int) (hn : n < 1000) (hlb : ∀ i, i < f.nl → 0 ≤ f.lb i ∧ f.lb i < f.nb) : Pure Try.prog 26 [farmV f, intsV n ex fl] (.sb (f.truthN n fl)) := by
  obtain ⟨O, hO⟩ : ∃ O : Ar, O = std := ⟨_, rfl⟩
  have hnl := hs.2.2
  refine pure_of_body tok 3 Try.func26 en26 rfl ⟨farmV_below f, intsV_below n ex fl, trivial⟩ Below.sb ?_
  refine SW.seqRun tok hO (by cbv <;> rfl) (by trivial) ?_
  refine SW.seq ?_
  refine SW.seqRun tok hO (by cbv <;> rfl) (by trivial) ?_
  have call := isListed_ok f hs n ex fl hn
  generalize hL : f.listedB n fl = L at call
  refine OpsW.callP call (by cbv <;> rfl) ?_
  have hnot : O.not L = !L := by subst hO; rfl
  refine OpsW.run tok hO (by cbv <;> rfl) (by trivial) ?_
  refine SW.condS (by cbv <;> rfl) (fun h => ?_) (fun h => SW.skip ?_)
  · refine SW.seqRun tok hO (by cbv <;> rfl) (by trivial) ?_
    refine SW.ret ⟨_, _, rfl, rfl, Eqv.bool ?_⟩
    unfold FarmD.truthN; rw [hL, show L = false by simpa using hnot.symm.trans h]; rfl
  have hLt : L = true := by simpa using hnot.symm.trans h
  have hns : f.ns ≤ n := by
    rw [hLt] at hL; unfold FarmD.listedB at hL
    simp only [Bool.and_eq_true, decide_eq_true_eq] at hL; omega
  refine SW.seq ?_
  refine SW.seqRun tok hO (by cbv <;> rfl) (by trivial) ?_
  refine (SW.block (SW.loopF (fun i : Nat => ⟨⟨26, getT [(1, intsV n ex fl), (2, .ptr 0 0), (4, .lit (.bool false)), (5, iV i)]⟩, []⟩) (fun _ => ⟨[(0, .cells none false [springsV f, bedsV f, looksV f])], 1⟩) (fun i => f.nl - i)
    (fun i => i ≤ f.nl ∧ ∀ j, j < i → f.rightN fl j = true) 0
    (fun _ => rfl) ⟨Nat.zero_le _, fun j hj => absurd hj (Nat.not_lt_zero j)⟩ (Weak.by rfl rfl (by simp) (Nat.le_refl _) (Nat.le_refl _) ⟨⟨rfl, .inl rfl⟩, ⟨rfl, .inl rfl⟩, ⟨rfl, .inl rfl⟩, ⟨rfl, .inl rfl⟩, trivial⟩ ⟨⟨rfl, by omega, .inl rfl⟩, trivial⟩) fun i ⟨hi, hall⟩ => ?_))
  refine SW.seq ?_
  refine SW.seqRun tok hO (by cbv <;> rfl) (by trivial) ?_
  refine SW.condS (by cbv <;> rfl) (fun h => SW.skip ?_) (fun h => SW.exit ?_)
  · have hlt : i < f.nl := by subst hO; simpa [std] using h
    have h0 : (0 : Int) ≤ Int.ofNat i := Int.natCast_nonneg i
    have hnat : O.nat (Int.ofNat i) = i := by subst hO; rfl
    have call := rightN_ok f hs n ex fl hn hns i (hlb i hlt).1 (hlb i hlt).2
    rw [← hnat] at call
    refine SW.seq (SW.block ?_)
    refine SW.seqRunD tok mixed hO (by rfl) (by cbv <;> rfl) ?_ ?_
    · exact ⟨h0, Int.ofNat_lt.2 hlt⟩
    refine AnyE.callD call (by cbv <;> rfl) (by cbv <;> rfl) (fun hb => ?_) (fun hb => ?_) <;> rw [hnat] at hb
    · refine AnyE.run tok hO (by rfl) (by cbv <;> rfl) (by trivial) ?_
      refine SW.cond (t := false) (by cbv <;> rfl) (SW.skip ?_)
      refine SW.run tok hO (by cbv <;> rfl) (by trivial) ?_
      refine ⟨i + 1, by omega, ⟨by omega, fun j hj => ?_⟩, Weak.by rfl rfl (by simp) (Nat.le_refl _) (Nat.le_refl _) ⟨⟨rfl, .inl rfl⟩, ⟨rfl, .inl rfl⟩, ⟨rfl, .inl rfl⟩, ⟨inc_ok hO (by omega), .inl rfl⟩, trivial⟩ ⟨⟨rfl, by omega, .inl rfl⟩, trivial⟩⟩
      rcases Nat.lt_succ_iff_lt_or_eq.1 hj with hj | rfl
      · exact hall j hj
      · exact hb
    · refine AnyE.run tok hO (by rfl) (by cbv <;> rfl) (by trivial) ?_
      refine SW.cond (t := true) (by cbv <;> rfl) ?_
      refine SW.seqRun tok hO (by cbv <;> rfl) (by trivial) ?_
      refine SW.ret ⟨_, _, rfl, rfl, Eqv.bool ?_⟩
      unfold FarmD.truthN
      rw [allN_false hlt hb]; simp
  · have hge : f.nl ≤ i := by subst hO; simpa [std] using h
    refine SW.seqRun tok hO (by cbv <;> rfl) (by trivial) ?_
    refine SW.ret ⟨_, _, rfl, rfl, Eqv.bool ?_⟩
    unfold FarmD.truthN
    rw [hL, hLt, allN_true fun j hj => hall j (by omega)]; rfl
end Go.Fz

/-
  Layer 1: WHAT THE PROGRAM COMPUTES IS WHAT THE STATEMENTS ASK (numbers of truths, water, cuts). Own work of the verifier of watercress.
-/
namespace Go.Fz

/-! ### The number of truths -/
def FarmD.prodN (f : FarmD) : Nat → Int
  | 0 => 1
  | s + 1 => f.prodN s * (f.shi s - f.slo s + 1)

theorem size64_in {lo hi : Int} (h0 : 0 ≤ lo) (h1 : lo ≤ hi) (h2 : hi ≤ 30) : size64 lo hi = hi - lo + 1 := by
  unfold size64
  rw [sub64_in hi lo (by omega) (by omega), add64_in _ _ (by omega) (by omega)]

theorem FarmD.prod_le (f : FarmD) (h : ∀ s, s < f.ns → 0 ≤ f.slo s ∧ f.slo s ≤ f.shi s ∧ f.shi s ≤ 30) : ∀ s, s ≤ f.ns → 1 ≤ f.prodN s ∧ f.prodN s ≤ 31 ^ s
  | 0, _ => ⟨Int.le_refl _, Int.le_refl _⟩
  | s + 1, hs => by
    obtain ⟨h1, h2⟩ := f.prod_le h s (by omega)
    obtain ⟨h3, h4, h5⟩ := h s (by omega)
    have hz : 1 ≤ f.shi s - f.slo s + 1 ∧ f.shi s - f.slo s + 1 ≤ 31 := by omega
    generalize f.shi s - f.slo s + 1 = z at hz
    refine ⟨?_, ?_⟩
    · show 1 ≤ f.prodN s * _
      calc (1 : Int) = 1 * 1 := rfl
        _ ≤ f.prodN s * _ := Int.mul_le_mul h1 (by omega) (by omega) (by omega)
    · show f.prodN s * _ ≤ _
      rw [Int.pow_succ]
      exact Int.mul_le_mul h2 (by omega) (by omega) (by omega)

theorem FarmD.sizes_eq (f : FarmD) (hns : f.ns ≤ 4) (h : ∀ s, s < f.ns → 0 ≤ f.slo s ∧ f.slo s ≤ f.shi s ∧ f.shi s ≤ 30) : ∀ s, s ≤ f.ns → f.sizesN s = f.prodN s ∧ f.manyN s = minI 3000 (f.prodN s)
  | 0, _ => ⟨rfl, rfl⟩
  | s + 1, hs => by
    obtain ⟨h1, h2⟩ := f.sizes_eq hns h s (by omega)
    obtain ⟨h3, h4, h5⟩ := h s (by omega)
    obtain ⟨k1, k2⟩ := f.prod_le h (s + 1) hs
    obtain ⟨k3, k4⟩ := f.prod_le h s (by omega)
    have hp : (31 : Int) ^ (s + 1) ≤ 923521 := by
      have : s + 1 = 1 ∨ s + 1 = 2 ∨ s + 1 = 3 ∨ s + 1 = 4 := by omega
      rcases this with h | h | h | h <;> rw [h] <;> decide
    have e1 : f.prodN (s + 1) = f.prodN s * (f.shi s - f.slo s + 1) := rfl
    have hz := size64_in h3 h4 h5
    have hzb : 1 ≤ f.shi s - f.slo s + 1 ∧ f.shi s - f.slo s + 1 ≤ 31 := by omega
    refine ⟨?_, ?_⟩
    · show mul64 (f.sizesN s) (size64 _ _) = _
      rw [h1, hz]
      show wrp .i64 (f.prodN s * _) = f.prodN s * _
      rw [← e1]
      exact wrp_in (by simp only [IntKind.lo]; omega) (by simp only [IntKind.hi]; omega)
    · show minI 3000 (mul64 (f.manyN s) (size64 _ _)) = _
      rw [h2, hz]
      rw [e1] at k1 k2 ⊢
      generalize f.shi s - f.slo s + 1 = z at *
      generalize f.prodN s = p at *
      have hm : mul64 (minI 3000 p) z = minI 3000 p * z := by
        have hb : 1 ≤ minI 3000 p ∧ minI 3000 p ≤ 3000 := by unfold minI; split <;> omega
        have k5 : minI 3000 p * z ≤ 3000 * 31 := Int.mul_le_mul hb.2 hzb.2 (by omega) (by omega)
        have k6 : (0 : Int) ≤ minI 3000 p * z := Int.mul_nonneg (by omega) (by omega)
        exact wrp_in (by simp only [IntKind.lo]; omega) (by simp only [IntKind.hi]; omega)
      rw [hm]
      unfold minI
      split
      · rfl
      · rename_i hp3
        have k7 : 3000 * 1 ≤ 3000 * z := Int.mul_le_mul (Int.le_refl _) hzb.1 (by omega) (by omega)
        have k8 : 3000 * z ≤ p * z := Int.mul_le_mul_of_nonneg_right (by omega) (by omega)
        rw [if_neg (by omega), if_neg (by omega)]

theorem FarmD.check_eq (f : FarmD) : f.check = f.faultN := by
  unfold FarmD.check FarmD.faultN
  split
  · rfl
  · rename_i hl
    split
    · rename_i hv
      have g := good_of_valid (by simpa using hl) hv
      obtain ⟨h1, h2⟩ := f.sizes_eq g.ns (fun s hs => (g.spring s hs).2) f.ns (Nat.le_refl _)
      rw [h1, h2]
      unfold minI
      by_cases h3 : f.prodN f.ns < 3000
      · rw [if_pos h3]
      · rw [if_neg h3, if_pos (by omega), if_pos (by omega)]
    · rfl

/-! ### The water of all beds -/
theorem FarmD.playS_eq (f : FarmD) (hs : ∀ s, s < f.ns → 0 ≤ f.sb s) (fl : Nat → Int) (b : Nat) : ∀ s, s ≤ f.ns → playS f fl s b 0 = f.inS fl b s
  | 0, _ => rfl
  | s + 1, h => by
    have ih := f.playS_eq hs fl b s (by omega)
    have h0 := hs s (by omega)
    show (if (f.sb s).toNat = b ∧ (0 : Nat) = 0 then add64 (playS f fl s b 0) (fl s) else playS f fl s b 0) = (if f.sb s = (b : Int) then _ else _)
    rw [ih]
    by_cases hb : f.sb s = (b : Int)
    · rw [if_pos hb, if_pos ⟨by omega, rfl⟩]
    · rw [if_neg hb, if_neg (fun ⟨h1, _⟩ => hb (by omega))]

theorem pow2_le {b : Nat} (h : b < 8) : (2 : Int) ^ b ≤ 128 := by
  have : b = 0 ∨ b = 1 ∨ b = 2 ∨ b = 3 ∨ b = 4 ∨ b = 5 ∨ b = 6 ∨ b = 7 := by omega
  rcases this with h | h | h | h | h | h | h | h <;> rw [h] <;> decide
theorem pow2_pos (b : Nat) : (1 : Int) ≤ 2 ^ b := by
  induction b with
  | zero => decide
  | succ n ih => rw [Int.pow_succ]; omega

theorem FarmD.inS_bound (f : FarmD) (fl : Nat → Int) (hns : f.ns ≤ 4) (hfl : ∀ s, s < f.ns → 0 ≤ fl s ∧ fl s ≤ 30) (b : Nat) : ∀ s, s ≤ f.ns → 0 ≤ f.inS fl b s ∧ f.inS fl b s ≤ 30 * s
  | 0, _ => ⟨Int.le_refl _, Int.le_refl _⟩
  | s + 1, h => by
    obtain ⟨h1, h2⟩ := f.inS_bound fl hns hfl b s (by omega)
    obtain ⟨h3, h4⟩ := hfl s (by omega)
    show 0 ≤ (if f.sb s = (b : Int) then _ else _) ∧ (if f.sb s = (b : Int) then _ else _) ≤ _
    split
    · rw [add64_in _ _ (by omega) (by omega)]; omega
    · omega

theorem FarmD.waN_bound (f : FarmD) (g : f.Good) (fl : Nat → Int) (hfl : ∀ s, s < f.ns → 0 ≤ fl s ∧ fl s ≤ 30) (b : Nat) : b < f.nb → 0 ≤ f.waN fl b ∧ f.waN fl b ≤ 120 * 2 ^ b := by
  induction b using Nat.strongRecOn with
  | _ b ih =>
    intro hb
    rw [f.waN_eq]
    have hns := g.ns
    have hnb := g.nb
    have key : ∀ i, i ≤ b → 0 ≤ f.inB fl (f.waN fl) b i ∧ f.inB fl (f.waN fl) b i ≤ 120 * 2 ^ i := by
      intro i
      induction i with
      | zero =>
        intro _
        obtain ⟨h1, h2⟩ := f.inS_bound fl hns hfl b f.ns (Nat.le_refl _)
        show 0 ≤ f.inS fl b f.ns ∧ f.inS fl b f.ns ≤ 120 * 1
        omega
      | succ i ihi =>
        intro hi
        obtain ⟨h1, h2⟩ := ihi (by omega)
        obtain ⟨h3, h4⟩ := ih i (by omega) (by omega)
        obtain ⟨_, ⟨h5, h6⟩, _⟩ := g.bed i (by omega)
        have hp := pow2_le (b := i) (by omega)
        have hq := pow2_pos i
        have he : (2 : Int) ^ (i + 1) = 2 ^ i * 2 := Int.pow_succ 2 i
        rw [he]
        generalize (2 : Int) ^ i = p at *
        show 0 ≤ (if f.down i = (b : Int) then _ else _) ∧ (if f.down i = (b : Int) then _ else _) ≤ _
        split
        · rw [sub64_in _ _ (by omega) (by omega)]
          have : 0 ≤ maxI 0 (f.waN fl i - f.notch i) ∧ maxI 0 (f.waN fl i - f.notch i) ≤ f.waN fl i := by unfold maxI; split <;> omega
          rw [add64_in _ _ (by omega) (by omega)]
          omega
        · omega
    exact key b (Nat.le_refl _)

theorem over_eq {w k : Int} (h0 : 0 ≤ w) (h1 : w ≤ 20000) (h2 : 0 ≤ k) (h3 : k ≤ 9) : sub64 w (minI w k) = maxI 0 (sub64 w k) := by
  rw [sub64_in w k (by omega) (by omega)]
  unfold minI maxI
  split <;> rw [sub64_in _ _ (by omega) (by omega)] <;> split <;> omega

theorem FarmD.playB_eq (f : FarmD) (g : f.Good) (fl K : Nat → Int) (hK : ∀ b, b < f.nb → K b = f.notch b) (hfl : ∀ s, s < f.ns → 0 ≤ fl s ∧ fl s ≤ 30) : ∀ i, i ≤ f.nb → ∀ b, b < f.nb →
    (b < i → playB f K fl i b 0 = f.waN fl b ∧ playB f K fl i b 1 = minI (f.waN fl b) (f.notch b) ∧ playB f K fl i b 2 = sub64 (f.waN fl b) (minI (f.waN fl b) (f.notch b))) ∧
    (i ≤ b → playB f K fl i b 0 = f.inB fl (f.waN fl) b i)
  | 0, _, b, hb => ⟨fun h => absurd h (Nat.not_lt_zero b), fun _ => f.playS_eq (fun s hs => (g.spring s hs).1.1) fl b f.ns (Nat.le_refl _)⟩
  | i + 1, hi, b, hb => by
    have ih := f.playB_eq g fl K hK hfl i (by omega)
    have hnb := g.nb
    have hW : playB f K fl i i 0 = f.waN fl i := by rw [(ih i (by omega)).2 (Nat.le_refl _), ← f.waN_eq]
    obtain ⟨hw0, hw1⟩ := f.waN_bound g fl hfl i (by omega)
    have hp := pow2_le (b := i) (by omega)
    have hov : sub64 (f.waN fl i) (minI (f.waN fl i) (f.notch i)) = maxI 0 (sub64 (f.waN fl i) (f.notch i)) := over_eq hw0 (by omega) (g.bed i (by omega)).2.1.1 (g.bed i (by omega)).2.1.2
    have hd := (g.bed i (by omega)).2.2
    have hKi := hK i (by omega)
    have e0 : playB f K fl (i + 1) b 0 = if 0 ≤ f.down i ∧ (f.down i).toNat = b then add64 (playB f K fl i b 0) (sub64 (f.waN fl i) (minI (f.waN fl i) (f.notch i))) else playB f K fl i b 0 := by
      show stepB f K i (playB f K fl i) b 0 = _
      unfold stepB
      rw [if_pos rfl, hW, hKi]
    refine ⟨fun hlt => ?_, fun hle => ?_⟩
    · by_cases hbi : b = i
      · subst hbi
        refine ⟨?_, ?_, ?_⟩
        · rw [e0, if_neg (by omega), hW]
        · show stepB f K b (playB f K fl b) b 1 = _
          unfold stepB
          rw [if_neg (by decide), if_pos rfl, if_pos rfl, hW, hKi]
        · show stepB f K b (playB f K fl b) b 2 = _
          unfold stepB
          rw [if_neg (by decide), if_pos rfl, if_neg (by decide), hW, hKi]
      · obtain ⟨h1, h2, h3⟩ := (ih b hb).1 (by omega)
        refine ⟨?_, ?_, ?_⟩
        · rw [e0, if_neg (by omega), h1]
        · show stepB f K i (playB f K fl i) b 1 = _
          unfold stepB
          rw [if_neg (by decide), if_neg (fun h => hbi h.symm), h2]
        · show stepB f K i (playB f K fl i) b 2 = _
          unfold stepB
          rw [if_neg (by decide), if_neg (fun h => hbi h.symm), h3]
    · rw [e0, (ih b hb).2 (by omega), hov]
      show _ = (if f.down i = (b : Int) then _ else _)
      by_cases hdb : f.down i = (b : Int)
      · rw [if_pos hdb, if_pos (by omega)]
      · rw [if_neg hdb, if_neg (by omega)]

theorem FarmD.water_eq (f : FarmD) (g : f.Good) (fl : Nat → Int) (hfl : ∀ s, s < f.ns → 0 ≤ fl s ∧ fl s ≤ 30) (b : Nat) (hb : b < f.nb) :
    f.water fl b 0 = f.waN fl b ∧ f.water fl b 1 = f.downN fl b ∧ f.water fl b 2 = sub64 (f.waN fl b) (f.downN fl b) :=
  (f.playB_eq g fl (f.k0 f.nb) (fun b hb => by unfold FarmD.k0; rw [if_pos hb]) hfl f.nb (Nat.le_refl _) b hb).1 hb

theorem FarmD.right_eq (f : FarmD) (g : f.Good) (fl : Nat → Int) (hfl : ∀ s, s < f.ns → 0 ≤ fl s ∧ fl s ≤ 30) (i : Nat) (hi : i < f.nl) : f.rightB (f.water fl) i = f.rightN fl i := by
  obtain ⟨h0, h1⟩ := (g.look i hi).1
  obtain ⟨_, h2, h3⟩ := f.water_eq g fl hfl (f.lb i).toNat (by omega)
  unfold FarmD.rightB FarmD.rightN Go.Fz.inB
  rw [h2, h3]

theorem FarmD.fits_eq (f : FarmD) (n : Nat) (fl : Nat → Int) : f.fits n fl = f.listedB n fl := by
  unfold FarmD.fits FarmD.listedB
  by_cases h : n = f.ns
  · subst h; rfl
  · simp [h]

theorem FarmD.proveT_eq (f : FarmD) (n : Nat) (fl : Nat → Int) : f.proveT n fl = (decide (f.faultN = 0) && f.truthN n fl) := by
  unfold FarmD.proveT FarmD.truthN
  rw [f.check_eq, f.fits_eq, Bool.and_assoc]
  by_cases h : f.faultN = 0
  · have g := good_of_check (f.check_eq.trans h)
    cases hl : f.listedB n fl with
    | false => rfl
    | true =>
      have hfl : ∀ s, s < f.ns → 0 ≤ fl s ∧ fl s ≤ 30 := fun s hs => by
        simp only [FarmD.listedB, allN, Go.Fz.inB, Bool.and_eq_true, decide_eq_true_eq] at hl
        have := hl.2 s hs
        have := (g.spring s hs).2
        omega
      rw [allN_congr fun i hi => f.right_eq g fl hfl i hi]
  · simp [h]

/-! ### The beds above -/
def FarmD.abT (f : FarmD) (below : Nat) : Nat → Int → Bool
  | 0, _ => false
  | k + 1, n => if n < 0 then false else if n = (below : Int) then true else f.abT below k (f.down n.toNat)
def FarmD.aboveN (f : FarmD) (b below : Nat) : Bool := f.abT below f.nb (f.down b)
/-- The bed, or a bed above it. -/
def FarmD.topN (f : FarmD) (bed j : Nat) : Bool := decide (j = bed) || f.aboveN j bed
theorem FarmD.abT_neg (f : FarmD) (below : Nat) (n : Int) (h : n < 0) : ∀ k, f.abT below k n = false
  | 0 => rfl
  | k + 1 => by unfold FarmD.abT; rw [if_pos h]
theorem FarmD.abT_past (f : FarmD) (g : f.Good) (below : Nat) : ∀ (k : Nat) (n : Int), n < f.nb → (below : Int) < n → f.abT below k n = false
  | 0, _, _, _ => rfl
  | k + 1, n, h1, h2 => by
    unfold FarmD.abT
    rw [if_neg (by omega), if_neg (by omega)]
    rcases (g.bed n.toNat (by omega)).2.2 with h | ⟨h3, h4⟩
    · rw [h]; exact f.abT_neg below _ (by omega) k
    · exact f.abT_past g below k _ h4 (by omega)
theorem FarmD.abT_fuel (f : FarmD) (g : f.Good) (below : Nat) : ∀ (k k' : Nat) (n : Int), -1 ≤ n → n < f.nb → (f.nb : Int) ≤ n + k → (f.nb : Int) ≤ n + k' → f.abT below k n = f.abT below k' n
  | 0, _, n, h0, h1, h2, _ => by omega
  | _ + 1, 0, n, h0, h1, _, h3 => by omega
  | k + 1, k' + 1, n, h0, h1, h2, h3 => by
    unfold FarmD.abT
    by_cases hn : n < 0
    · rw [if_pos hn, if_pos hn]
    · rw [if_neg hn, if_neg hn]
      by_cases hb : n = (below : Int)
      · rw [if_pos hb, if_pos hb]
      · rw [if_neg hb, if_neg hb]
        rcases (g.bed n.toNat (by omega)).2.2 with h | ⟨h4, h5⟩
        · rw [h, f.abT_neg below _ (by omega) k, f.abT_neg below _ (by omega) k']
        · exact f.abT_fuel g below k k' _ (by omega) h5 (by omega) (by omega)

theorem FarmD.mkN_eq (f : FarmD) (g : f.Good) (bed : Nat) (hb : bed < f.nb) : ∀ (k : Nat), k ≤ bed → ∀ j, j < f.nb → bed - k ≤ j → f.mkN bed k j = f.topN bed j
  | 0, _, j, hj, hk => by
    show decide (bed = j) = (decide (j = bed) || _)
    have : f.aboveN j bed = false := by
      unfold FarmD.aboveN
      rcases (g.bed j hj).2.2 with h | ⟨h1, h2⟩
      · rw [h]; exact f.abT_neg bed _ (by omega) _
      · exact f.abT_past g bed _ _ h2 (by omega)
    rw [this, Bool.or_false]
    exact decide_eq_decide.2 ⟨fun h => h.symm, fun h => h.symm⟩
  | k + 1, hk, j, hj, hkj => by
    show (if bed - 1 - k = j then _ else _) = _
    by_cases he : bed - 1 - k = j
    · rw [if_pos he]
      have hjb : ¬ j = bed := by omega
      unfold FarmD.topN
      rw [decide_eq_false hjb, Bool.false_or]
      unfold FarmD.aboveN
      rcases (g.bed j hj).2.2 with h | ⟨h1, h2⟩
      · rw [h, f.abT_neg bed _ (by omega)]; rfl
      · rw [decide_eq_true (show 0 ≤ f.down j by omega), Bool.true_and, f.mkN_eq g bed hb k (by omega) _ (by omega) (by omega)]
        unfold FarmD.topN FarmD.aboveN
        generalize hd : f.down j = d at *
        obtain ⟨m, hm⟩ : ∃ m, f.nb = m + 1 := ⟨f.nb - 1, by have := g.pos; omega⟩
        have e1 : f.abT bed f.nb d = if d < 0 then false else if d = (bed : Int) then true else f.abT bed m (f.down d.toNat) := by rw [hm]; rfl
        rw [e1, if_neg (by omega)]
        by_cases hdb : d = (bed : Int)
        · rw [if_pos hdb, decide_eq_true (show d.toNat = bed by omega)]; rfl
        · rw [if_neg hdb, decide_eq_false (show ¬ d.toNat = bed by omega), Bool.false_or]
          rcases (g.bed d.toNat (by omega)).2.2 with h | ⟨h3, h4⟩
          · rw [h, f.abT_neg bed _ (by omega), f.abT_neg bed _ (by omega)]
          · exact f.abT_fuel g bed _ _ _ (by omega) h4 (by omega) (by omega)
    · rw [if_neg he]
      exact f.mkN_eq g bed hb k (by omega) j hj (by omega)
theorem FarmD.marks_eq (f : FarmD) (g : f.Good) (bed : Nat) (hb : bed < f.nb) (j : Nat) (hj : j < f.nb) : f.marks bed j = f.topN bed j :=
  f.mkN_eq g bed hb bed (Nat.le_refl _) j hj (by omega)

/-! ### A cut -/
def FarmD.flowN (f : FarmD) (bed : Nat) (fl : Nat → Int) : Nat → Int
  | 0 => 0
  | s + 1 => if f.topN bed (f.sb s).toNat then add64 (f.flowN bed fl s) (fl s) else f.flowN bed fl s
def FarmD.needN (f : FarmD) (bed : Nat) : Nat → Int
  | 0 => 0
  | i + 1 => if f.topN bed i then add64 (f.needN bed i) (f.need i) else f.needN bed i
def FarmD.cutN (f : FarmD) (bed : Nat) (fl : Nat → Int) : Bool := decide (f.flowN bed fl f.ns < f.needN bed f.nb)
theorem FarmD.balS_eq (f : FarmD) (g : f.Good) (bed : Nat) (hb : bed < f.nb) (fl : Nat → Int) : ∀ s, s ≤ f.ns → f.balS (f.marks bed) fl s = f.flowN bed fl s
  | 0, _ => rfl
  | s + 1, h => by
    have ih := f.balS_eq g bed hb fl s (by omega)
    obtain ⟨⟨h0, h1⟩, _⟩ := g.spring s (by omega)
    show (if f.marks bed (f.sb s).toNat then _ else _) = (if f.topN bed (f.sb s).toNat then _ else _)
    rw [f.marks_eq g bed hb _ (by omega), ih]
theorem FarmD.flowN_bound (f : FarmD) (bed : Nat) (fl : Nat → Int) (hns : f.ns ≤ 4) (hfl : ∀ s, s < f.ns → 0 ≤ fl s ∧ fl s ≤ 30) : ∀ s, s ≤ f.ns → 0 ≤ f.flowN bed fl s ∧ f.flowN bed fl s ≤ 30 * s
  | 0, _ => ⟨Int.le_refl _, Int.le_refl _⟩
  | s + 1, h => by
    obtain ⟨h1, h2⟩ := f.flowN_bound bed fl hns hfl s (by omega)
    obtain ⟨h3, h4⟩ := hfl s (by omega)
    show 0 ≤ (if f.topN bed (f.sb s).toNat then _ else _) ∧ (if f.topN bed (f.sb s).toNat then _ else _) ≤ _
    split
    · rw [add64_in _ _ (by omega) (by omega)]; omega
    · omega
theorem FarmD.balB_eq (f : FarmD) (g : f.Good) (bed : Nat) (hb : bed < f.nb) (fl : Nat → Int) (hfl : ∀ s, s < f.ns → 0 ≤ fl s ∧ fl s ≤ 30) : ∀ i, i ≤ f.nb →
    f.balB (f.marks bed) fl i = f.flowN bed fl f.ns - f.needN bed i ∧ 0 ≤ f.needN bed i ∧ f.needN bed i ≤ 9 * i
  | 0, _ => ⟨by show f.balS (f.marks bed) fl f.ns = _ - 0; rw [f.balS_eq g bed hb fl _ (Nat.le_refl _)]; omega, Int.le_refl _, Int.le_refl _⟩
  | i + 1, h => by
    obtain ⟨h1, h2, h3⟩ := f.balB_eq g bed hb fl hfl i (by omega)
    obtain ⟨⟨h4, h5⟩, _⟩ := g.bed i (by omega)
    obtain ⟨h6, h7⟩ := f.flowN_bound bed fl g.ns hfl f.ns (Nat.le_refl _)
    have hns := g.ns
    have hnb := g.nb
    have e1 : f.balB (f.marks bed) fl (i + 1) = if f.topN bed i then sub64 (f.balB (f.marks bed) fl i) (f.need i) else f.balB (f.marks bed) fl i := by
      show (if f.marks bed i then _ else _) = _
      rw [f.marks_eq g bed hb i (by omega)]
    have e2 : f.needN bed (i + 1) = if f.topN bed i then add64 (f.needN bed i) (f.need i) else f.needN bed i := rfl
    rw [e1, e2, h1]
    cases f.topN bed i with
    | true =>
      simp only [↓reduceIte]
      rw [sub64_in _ _ (by omega) (by omega), add64_in _ _ (by omega) (by omega)]
      omega
    | false =>
      simp only [Bool.false_eq_true, ↓reduceIte]
      refine ⟨trivial, ?_, ?_⟩ <;> omega
theorem FarmD.cut_eq (f : FarmD) (g : f.Good) (bed : Nat) (hb : bed < f.nb) (fl : Nat → Int) (hfl : ∀ s, s < f.ns → 0 ≤ fl s ∧ fl s ≤ 30) : f.cutB bed fl = f.cutN bed fl := by
  unfold FarmD.cutB FarmD.cutN
  rw [(f.balB_eq g bed hb fl hfl f.nb (Nat.le_refl _)).1]
  exact decide_eq_decide.2 (by omega)

theorem FarmD.fl_of_listed {f : FarmD} (g : f.Good) {n : Nat} {fl : Nat → Int} (hl : f.listedB n fl = true) : ∀ s, s < f.ns → 0 ≤ fl s ∧ fl s ≤ 30 := fun s hs => by
  simp only [FarmD.listedB, allN, Go.Fz.inB, Bool.and_eq_true, decide_eq_true_eq] at hl
  have := hl.2 s hs
  have := (g.spring s hs).2
  omega

/-- What ProveCut returns is what the statement asks. -/
theorem FarmD.proveC_eq (f : FarmD) (bed : Int) (n : Nat) (fl : Nat → Int) : f.proveC bed n fl = (decide (f.faultN = 0) && f.hasB bed && f.truthN n fl && f.cutN bed.toNat fl) := by
  unfold FarmD.proveC
  rw [f.proveT_eq]
  by_cases h : f.faultN = 0
  · have g := good_of_check (f.check_eq.trans h)
    cases hb : f.hasB bed with
    | false => simp
    | true =>
      cases ht : f.truthN n fl with
      | false => simp
      | true =>
        have hl : f.listedB n fl = true := by
          unfold FarmD.truthN at ht
          rw [Bool.and_eq_true] at ht; exact ht.1
        simp only [FarmD.hasB, Bool.and_eq_true, decide_eq_true_eq] at hb
        rw [f.cut_eq g bed.toNat (by omega) fl (FarmD.fl_of_listed g hl)]
  · simp [h]
end Go.Fz

/-
  The statements' own functions of layer 1: to, Above, IsCut. Own work of the verifier of watercress.
-/
namespace Go.Fz
open Go.Proofs
set_option maxRecDepth 100000

theorem to_ok (lo hi : Int) : Pure Try.prog 70 [rangeV lo hi] (rangeV lo hi) := by
  obtain ⟨O, hO⟩ : ∃ O : Ar, O = std := ⟨_, rfl⟩
  refine pure_of_body tok 3 Try.func70 en70 rfl ⟨rangeV_below, trivial⟩ rangeV_below ?_
  refine SW.seqRun tok hO (by cbv <;> rfl) (by trivial) ?_
  refine SW.seqRun tok hO (by cbv <;> rfl) (by trivial) ?_
  refine SW.ret ⟨_, _, rfl, rfl, Eqv.of ?_⟩
  rfl

theorem FarmD.abv_step (f : FarmD) (g : f.Good) (below : Nat) (n : Int) (h0 : 0 ≤ n) (h1 : n < f.nb) : f.abT below f.nb n = if n = (below : Int) then true else f.abT below f.nb (f.down n.toNat) := by
  obtain ⟨m, hm⟩ : ∃ m, f.nb = m + 1 := ⟨f.nb - 1, by omega⟩
  have e1 : f.abT below f.nb n = if n < 0 then false else if n = (below : Int) then true else f.abT below m (f.down n.toNat) := by rw [hm]; rfl
  rw [e1, if_neg (by omega)]
  by_cases hb : n = (below : Int)
  · rw [if_pos hb, if_pos hb]
  · rw [if_neg hb, if_neg hb]
    rcases (g.bed n.toNat (by omega)).2.2 with h | ⟨h3, h4⟩
    · rw [h, f.abT_neg below _ (by omega), f.abT_neg below _ (by omega)]
    · exact f.abT_fuel g below _ _ _ (by omega) h4 (by omega) (by omega)

set_option maxHeartbeats 4000000 in
theorem above_ok (f : FarmD) (g : f.Good) (b below : Nat) (hb : b < f.nb) : Pure Try.prog 63 [farmV f, iV b, iV below] (.sb (f.aboveN b below)) := by
  obtain ⟨O, hO⟩ : ∃ O : Ar, O = std := ⟨_, rfl⟩
  have hnat : ∀ i : Nat, O.nat (Int.ofNat i) = i := fun i => by subst hO; rfl
  have hN : ∀ n : Int, O.nat n = n.toNat := fun n => by subst hO; rfl
  have h0 : (0 : Int) ≤ Int.ofNat b := Int.natCast_nonneg b
  have hnb := g.nb
  refine pure_of_body tok 3 Try.func63 en63 rfl ⟨farmV_below f, iV_below, iV_below, trivial⟩ Below.sb ?_
  refine SW.seqRun tok hO (by cbv <;> rfl) (by trivial) ?_
  refine SW.seq ?_
  refine SW.seqRun tok hO (by cbv <;> rfl) ?_ ?_
  · exact ⟨h0, Int.ofNat_lt.2 hb⟩
  refine (SW.block (SW.loopF (fun n : Int => ⟨⟨25, getT [(2, iV below), (3, .ptr 0 0), (6, .lit (.bool false)), (7, iV n)]⟩, []⟩) (fun _ => ⟨[(0, .cells none false [springsV f, bedsV f, looksV f])], 1⟩) (fun n => if n < 0 then 0 else (f.nb - n).toNat)
    (fun n => -1 ≤ n ∧ n < f.nb ∧ f.abT below f.nb n = f.aboveN b below) (f.down b)
    (fun _ => rfl) ⟨?_, ?_, rfl⟩ (Weak.by rfl rfl (by simp) (Nat.le_refl _) (Nat.le_refl _) ⟨⟨rfl, .inl rfl⟩, ⟨rfl, .inl rfl⟩, ⟨rfl, .inl rfl⟩, ⟨?_, .inl rfl⟩, trivial⟩ ⟨⟨rfl, by omega, .inl rfl⟩, trivial⟩) fun n ⟨hn1, hn2, hn3⟩ => ?_))
  · have := (g.bed b hb).2.2; omega
  · have := (g.bed b hb).2.2; omega
  · show iV (f.down (O.nat (Int.ofNat b))) = iV (f.down b)
    rw [hnat]
  refine SW.seq ?_
  refine SW.seqRun tok hO (by cbv <;> rfl) (by trivial) ?_
  refine SW.condS (by cbv <;> rfl) (fun h => SW.skip ?_) (fun h => SW.exit ?_)
  · have hge : 0 ≤ n := by subst hO; simpa [std] using h
    have hstep := f.abv_step g below n hge hn2
    refine SW.seq (SW.block ?_)
    refine SW.seqRun tok hO (by cbv <;> rfl) (by trivial) ?_
    refine SW.condS (by cbv <;> rfl) (fun h' => ?_) (fun h' => SW.skip ?_)
    · have he : n = (below : Int) := by subst hO; simpa [std] using h'
      refine SW.seqRun tok hO (by cbv <;> rfl) (by trivial) ?_
      refine SW.ret ⟨_, _, rfl, rfl, Eqv.bool ?_⟩
      rw [← hn3, hstep, if_pos he]
    · have he : ¬ n = (below : Int) := by subst hO; simpa [std] using h'
      have hd := (g.bed n.toNat (by omega)).2.2
      refine SW.run tok hO (by cbv <;> rfl) ?_ ?_
      · exact ⟨hge, hn2⟩
      refine ⟨f.down n.toNat, by (rw [if_neg (show ¬ n < 0 by omega)]; split <;> omega), ⟨by omega, by omega, ?_⟩, Weak.by rfl rfl (by simp) (Nat.le_refl _) (Nat.le_refl _) ⟨⟨rfl, .inl rfl⟩, ⟨rfl, .inl rfl⟩, ⟨rfl, .inl rfl⟩, ⟨?_, .inl rfl⟩, trivial⟩ ⟨⟨rfl, by omega, .inl rfl⟩, trivial⟩⟩
      · rw [← hn3, hstep, if_neg he]
      · show iV (f.down (O.nat n)) = iV (f.down n.toNat)
        rw [hN]
  · have hlt : n < 0 := by subst hO; simpa [std] using h
    refine SW.seqRun tok hO (by cbv <;> rfl) (by trivial) ?_
    refine SW.ret ⟨_, _, rfl, rfl, Eqv.bool ?_⟩
    rw [← hn3, f.abT_neg below n hlt]

set_option maxHeartbeats 4000000 in
theorem isCutN_ok (f : FarmD) (g : f.Good) (n : Nat) (ex : Bool) (fl : Nat → Int) (hn : n < 1000) (hns : f.ns ≤ n) (bed : Nat) : Pure Try.prog 37 [farmV f, intsV n ex fl, iV bed] (.sb (f.cutN bed fl)) := by
  obtain ⟨O, hO⟩ : ∃ O : Ar, O = std := ⟨_, rfl⟩
  have hnat : ∀ i : Nat, O.nat (Int.ofNat i) = i := fun i => by subst hO; rfl
  have hN : ∀ n : Int, O.nat n = n.toNat := fun n => by subst hO; rfl
  have hnb := g.nb
  have hns4 := g.ns
  refine pure_of_body tok 3 Try.func37 en37 rfl ⟨farmV_below f, intsV_below n ex fl, iV_below, trivial⟩ Below.sb ?_
  refine SW.seqRun tok hO (by cbv <;> rfl) (by trivial) ?_
  refine SW.seqRun tok hO (by cbv <;> rfl) (by trivial) ?_
  refine SW.seq ?_
  refine SW.seqRun tok hO (by cbv <;> rfl) (by trivial) ?_
  refine (SW.block (SW.loopF (fun i : Nat => ⟨⟨67, getT [(1, intsV n ex fl), (2, iV bed), (3, .ptr 0 0), (6, .lit (.bool false)), (7, iV (f.needN bed i)), (8, iV 0), (9, iV i)]⟩, []⟩) (fun _ => ⟨[(0, .cells none false [springsV f, bedsV f, looksV f])], 1⟩) (fun i => f.nb - i)
    (fun i => i ≤ f.nb) 0
    (fun _ => rfl) (Nat.zero_le _) (Weak.by rfl rfl (by simp) (Nat.le_refl _) (Nat.le_refl _) ⟨⟨rfl, .inl rfl⟩, ⟨rfl, .inl rfl⟩, ⟨rfl, .inl rfl⟩, ⟨rfl, .inl rfl⟩, ⟨rfl, .inl rfl⟩, ⟨rfl, .inl rfl⟩, ⟨rfl, .inl rfl⟩, trivial⟩ ⟨⟨rfl, by omega, .inl rfl⟩, trivial⟩) fun i hi => ?_))
  generalize hB : f.needN bed i = B
  refine SW.seq ?_
  refine SW.seqRun tok hO (by cbv <;> rfl) (by trivial) ?_
  refine SW.condS (by cbv <;> rfl) (fun h => SW.skip ?_) (fun h => SW.exit ?_)
  · have hlt : i < f.nb := by subst hO; simpa [std] using h
    have h0 : (0 : Int) ≤ Int.ofNat i := Int.natCast_nonneg i
    have yes : f.topN bed i = true → add64 B (f.need i) = f.needN bed (i + 1) := fun ht => by
      show _ = (if f.topN bed i then _ else _)
      rw [if_pos ht, hB]
    have no : f.topN bed i = false → B = f.needN bed (i + 1) := fun ht => by
      show _ = (if f.topN bed i then _ else _)
      rw [ht, hB]; rfl
    have call := above_ok f g i bed hlt
    refine SW.seq (SW.block ?_)
    refine SW.seqRun tok hO (by cbv <;> rfl) (by trivial) ?_
    refine OpsW.splitG (by cbv <;> rfl) (fun h1 => ?_) (fun h1 => ?_) <;> refine OpsW.run tok hO (by cbv <;> rfl) (by trivial) ?_
    · have he : i = bed := by have h2 : (i : Int) = bed := (by subst hO; simpa [std] using h1); omega
      refine SW.cond (t := true) (by cbv <;> rfl) ?_
      refine SW.run tok hO (by cbv <;> rfl) ?_ ?_
      · exact ⟨h0, Int.ofNat_lt.2 hlt⟩
      refine SW.run tok hO (by cbv <;> rfl) (by trivial) ?_
      refine ⟨i + 1, by omega, by omega, Weak.by rfl rfl (by simp) (Nat.le_refl _) (Nat.le_refl _) ⟨⟨rfl, .inl rfl⟩, ⟨rfl, .inl rfl⟩, ⟨rfl, .inl rfl⟩, ⟨rfl, .inl rfl⟩, ⟨?_, .inl rfl⟩, ⟨rfl, .inl rfl⟩, ⟨inc_ok hO (by omega), .inl rfl⟩, trivial⟩ ⟨⟨rfl, by omega, .inl rfl⟩, trivial⟩⟩
      rw [← yes (by unfold FarmD.topN; rw [decide_eq_true he]; rfl)]; subst hO; rfl
    · have he : ¬ i = bed := by have h2 : ¬ (i : Int) = bed := (by subst hO; simpa [std] using h1); omega
      have ht : f.topN bed i = f.aboveN i bed := by unfold FarmD.topN; rw [decide_eq_false he]; rfl
      refine OpsW.callB call (by cbv <;> rfl) fun b hb => ?_
      refine OpsW.run tok hO (by cbv <;> rfl) (by trivial) ?_
      refine SW.condS (by cbv <;> rfl) (fun h2 => ?_) (fun h2 => SW.skip ?_)
      · refine SW.run tok hO (by cbv <;> rfl) ?_ ?_
        · exact ⟨h0, Int.ofNat_lt.2 hlt⟩
        refine SW.run tok hO (by cbv <;> rfl) (by trivial) ?_
        refine ⟨i + 1, by omega, by omega, Weak.by rfl rfl (by simp) (Nat.le_refl _) (Nat.le_refl _) ⟨⟨rfl, .inl rfl⟩, ⟨rfl, .inl rfl⟩, ⟨rfl, .inl rfl⟩, ⟨rfl, .inl rfl⟩, ⟨?_, .inl rfl⟩, ⟨rfl, .inl rfl⟩, ⟨inc_ok hO (by omega), .inl rfl⟩, trivial⟩ ⟨⟨rfl, by omega, .inl rfl⟩, trivial⟩⟩
        rw [← yes (by rw [ht, ← hb]; exact h2)]; subst hO; rfl
      · refine SW.run tok hO (by cbv <;> rfl) (by trivial) ?_
        refine ⟨i + 1, by omega, by omega, Weak.by rfl rfl (by simp) (Nat.le_refl _) (Nat.le_refl _) ⟨⟨rfl, .inl rfl⟩, ⟨rfl, .inl rfl⟩, ⟨rfl, .inl rfl⟩, ⟨rfl, .inl rfl⟩, ⟨?_, .inl rfl⟩, ⟨rfl, .inl rfl⟩, ⟨inc_ok hO (by omega), .inl rfl⟩, trivial⟩ ⟨⟨rfl, by omega, .inl rfl⟩, trivial⟩⟩
        rw [← no (by rw [ht, ← hb]; exact h2)]; rfl
  have hin : i = f.nb := by
    have : f.nb ≤ i := by subst hO; simpa [std] using h
    omega
  rw [hin] at hB
  clear h hi hin
  refine SW.seq ?_
  refine SW.seqRun tok hO (by cbv <;> rfl) (by trivial) ?_
  refine (SW.block (SW.loopF (fun i : Nat => ⟨⟨67, getT [(1, intsV n ex fl), (2, iV bed), (3, .ptr 0 0), (6, .lit (.bool false)), (7, iV B), (8, iV (f.flowN bed fl i)), (10, iV i)]⟩, []⟩) (fun _ => ⟨[(0, .cells none false [springsV f, bedsV f, looksV f])], 1⟩) (fun i => f.ns - i)
    (fun i => i ≤ f.ns) 0
    (fun _ => rfl) (Nat.zero_le _) (Weak.by rfl rfl (by simp) (Nat.le_refl _) (Nat.le_refl _) ⟨⟨rfl, .inl rfl⟩, ⟨rfl, .inl rfl⟩, ⟨rfl, .inl rfl⟩, ⟨rfl, .inl rfl⟩, ⟨rfl, .inl rfl⟩, ⟨rfl, .inl rfl⟩, ⟨rfl, .inl rfl⟩, trivial⟩ ⟨⟨rfl, by omega, .inl rfl⟩, trivial⟩) fun i hi => ?_))
  generalize hF : f.flowN bed fl i = A
  refine SW.seq ?_
  refine SW.seqRun tok hO (by cbv <;> rfl) (by trivial) ?_
  refine SW.condS (by cbv <;> rfl) (fun h => SW.skip ?_) (fun h => SW.exit ?_)
  · have hlt : i < f.ns := by subst hO; simpa [std] using h
    have h0 : (0 : Int) ≤ Int.ofNat i := Int.natCast_nonneg i
    obtain ⟨⟨hs0, hs1⟩, _⟩ := g.spring i hlt
    have yes : f.topN bed (f.sb i).toNat = true → add64 A (fl i) = f.flowN bed fl (i + 1) := fun ht => by
      show _ = (if f.topN bed (f.sb i).toNat then _ else _)
      rw [if_pos ht, hF]
    have no : f.topN bed (f.sb i).toNat = false → A = f.flowN bed fl (i + 1) := fun ht => by
      show _ = (if f.topN bed (f.sb i).toNat then _ else _)
      rw [ht, hF]; rfl
    have call := above_ok f g (f.sb i).toNat bed (by omega)
    rw [show (((f.sb i).toNat : Nat) : Int) = f.sb i by omega, ← hnat i] at call
    refine SW.seq (SW.block ?_)
    refine SW.seqRun tok hO (by cbv <;> rfl) ?_ ?_
    · exact ⟨h0, Int.ofNat_lt.2 hlt⟩
    refine SW.seqRun tok hO (by cbv <;> rfl) (by trivial) ?_
    refine OpsW.splitG (by cbv <;> rfl) (fun h1 => ?_) (fun h1 => ?_) <;> refine OpsW.run tok hO (by cbv <;> rfl) (by trivial) ?_
    · have he : f.sb i = (bed : Int) := by subst hO; simpa [std] using h1
      refine SW.cond (t := true) (by cbv <;> rfl) ?_
      refine SW.run tok hO (by cbv <;> rfl) ?_ ?_
      · exact ⟨h0, Int.ofNat_lt.2 (by omega)⟩
      refine SW.run tok hO (by cbv <;> rfl) (by trivial) ?_
      refine ⟨i + 1, by omega, by omega, Weak.by rfl rfl (by simp) (Nat.le_refl _) (Nat.le_refl _) ⟨⟨rfl, .inl rfl⟩, ⟨rfl, .inl rfl⟩, ⟨rfl, .inl rfl⟩, ⟨rfl, .inl rfl⟩, ⟨rfl, .inl rfl⟩, ⟨?_, .inl rfl⟩, ⟨inc_ok hO (by omega), .inl rfl⟩, trivial⟩ ⟨⟨rfl, by omega, .inl rfl⟩, trivial⟩⟩
      rw [← yes (by unfold FarmD.topN; rw [decide_eq_true (show (f.sb i).toNat = bed by omega)]; rfl)]; subst hO; rfl
    · have he : ¬ f.sb i = (bed : Int) := by subst hO; simpa [std] using h1
      have ht : f.topN bed (f.sb i).toNat = f.aboveN (f.sb i).toNat bed := by unfold FarmD.topN; rw [decide_eq_false (show ¬ (f.sb i).toNat = bed by omega)]; rfl
      rw [hnat] at call
      rw [← ht] at call
      refine OpsW.callB (args := [farmV f, iV (f.sb (O.nat (Int.ofNat i))), iV bed]) (by rw [hnat]; exact call) (by cbv <;> rfl) fun b hb => ?_
      refine OpsW.run tok hO (by cbv <;> rfl) (by trivial) ?_
      refine SW.condS (by cbv <;> rfl) (fun h2 => ?_) (fun h2 => SW.skip ?_)
      · refine SW.run tok hO (by cbv <;> rfl) ?_ ?_
        · exact ⟨h0, Int.ofNat_lt.2 (by omega)⟩
        refine SW.run tok hO (by cbv <;> rfl) (by trivial) ?_
        refine ⟨i + 1, by omega, by omega, Weak.by rfl rfl (by simp) (Nat.le_refl _) (Nat.le_refl _) ⟨⟨rfl, .inl rfl⟩, ⟨rfl, .inl rfl⟩, ⟨rfl, .inl rfl⟩, ⟨rfl, .inl rfl⟩, ⟨rfl, .inl rfl⟩, ⟨?_, .inl rfl⟩, ⟨inc_ok hO (by omega), .inl rfl⟩, trivial⟩ ⟨⟨rfl, by omega, .inl rfl⟩, trivial⟩⟩
        rw [← yes (by rw [← hb]; exact h2)]; subst hO; rfl
      · refine SW.run tok hO (by cbv <;> rfl) (by trivial) ?_
        refine ⟨i + 1, by omega, by omega, Weak.by rfl rfl (by simp) (Nat.le_refl _) (Nat.le_refl _) ⟨⟨rfl, .inl rfl⟩, ⟨rfl, .inl rfl⟩, ⟨rfl, .inl rfl⟩, ⟨rfl, .inl rfl⟩, ⟨rfl, .inl rfl⟩, ⟨?_, .inl rfl⟩, ⟨inc_ok hO (by omega), .inl rfl⟩, trivial⟩ ⟨⟨rfl, by omega, .inl rfl⟩, trivial⟩⟩
        rw [← no (by rw [← hb]; exact h2)]; rfl
  · have hin : i = f.ns := by
      have : f.ns ≤ i := by subst hO; simpa [std] using h
      omega
    refine SW.seqRun tok hO (by cbv <;> rfl) (by trivial) ?_
    refine SW.ret ⟨_, _, rfl, rfl, Eqv.sb ?_⟩
    unfold FarmD.cutN
    rw [← hin, hF, hB]; subst hO; rfl
end Go.Fz
