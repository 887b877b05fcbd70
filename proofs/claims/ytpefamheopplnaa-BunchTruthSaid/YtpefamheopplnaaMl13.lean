/- Own work of the verifier of watercress: FzB10, FzB11, FzB14. -/
import Derived.Test.YtpefamheopplnaaMl12
set_option linter.unusedVariables false
set_option linter.unusedSimpArgs false
namespace Go.Fz
open Go.Proofs
set_option maxRecDepth 100000
theorem allN_false {n i : Nat} {p : Nat → Bool} (h : i < n) (hp : p i = false) : allN n p = false := by
  simp only [allN, decide_eq_false_iff_not]
  intro hq
  rw [hq i h] at hp; cases hp
theorem allN_true {n : Nat} {p : Nat → Bool} (h : ∀ i, i < n → p i = true) : allN n p = true := by
  simp only [allN, decide_eq_true_eq]; exact h
theorem sub1_ok {O : Ar} (hO : O = std) {n : Nat} (h : n < 4611686018427387904) : O.bin .sub .i64 (Int.ofNat n) 1 = (n : Int) - 1 := by
  have h1 : O.bin .sub .i64 (Int.ofNat n) 1 = sub64 (Int.ofNat n) 1 := by rw [hO]; exact sub64_eq _ _
  have h2 : sub64 (Int.ofNat n) 1 = (n : Int) - 1 := sub64_in (n : Int) 1 (by omega) (by omega)
  rw [h1, h2]
def intsEq (n : Nat) (a : Nat → Int) (m : Nat) (b : Nat → Int) : Bool := decide (n = m) && allN n fun i => decide (a i = b i)
set_option maxHeartbeats 4000000 in
theorem ints_ok (n : Nat) (e1 : Bool) (a : Nat → Int) (m : Nat) (e2 : Bool) (b : Nat → Int) (hn : n < 1000) : Pure Try.prog 29 [intsV n e1 a, intsV m e2 b] (.sb (intsEq n a m b)) := by
  obtain ⟨O, hO⟩ : ∃ O : Ar, O = std := ⟨_, rfl⟩
  have hnat : ∀ i : Nat, O.nat (Int.ofNat i) = i := fun i => by subst hO; rfl
  refine pure_of_body tok 3 Try.func29 en29 rfl ⟨intsV_below n e1 a, intsV_below m e2 b, trivial⟩ Below.sb ?_
  refine SW.seqRun tok hO (by cbv <;> rfl) (by trivial) ?_
  refine SW.seq ?_
  refine SW.seqRun tok hO (by cbv <;> rfl) (by trivial) ?_
  refine SW.condS (by cbv <;> rfl) (fun h => ?_) (fun h => SW.skip ?_)
  · refine SW.seqRun tok hO (by cbv <;> rfl) (by trivial) ?_
    refine SW.ret ⟨_, _, rfl, rfl, Eqv.bool ?_⟩
    have : ¬ n = m := by
      have : ¬ (n : Int) = (m : Int) := by subst hO; simpa [std] using h
      omega
    simp [intsEq, this]
  have hm : n = m := by
    have : (n : Int) = (m : Int) := by subst hO; simpa [std] using h
    omega
  subst hm
  refine SW.seq ?_
  refine SW.seqRun tok hO (by cbv <;> rfl) (by trivial) ?_
  refine (SW.block (SW.loopF (fun i : Nat => ⟨⟨26, getT [(0, intsV n e1 a), (1, intsV n e2 b), (4, .lit (.bool false)), (5, iV i)]⟩, []⟩) (fun _ => ⟨[], 0⟩) (fun i => n - i)
    (fun i => i ≤ n ∧ ∀ j, j < i → decide (a j = b j) = true) 0
    (fun _ => rfl) ⟨Nat.zero_le _, fun j hj => absurd hj (Nat.not_lt_zero j)⟩ (Weak.by rfl rfl (by simp) (Nat.le_refl _) (Nat.le_refl _) ⟨⟨rfl, .inl rfl⟩, ⟨rfl, .inl rfl⟩, ⟨rfl, .inl rfl⟩, ⟨rfl, .inl rfl⟩, trivial⟩ trivial) fun i ⟨hi, hall⟩ => ?_))
  refine SW.seq ?_
  refine SW.seqRun tok hO (by cbv <;> rfl) (by trivial) ?_
  refine SW.condS (by cbv <;> rfl) (fun h => SW.skip ?_) (fun h => SW.exit ?_)
  · have hlt : i < n := by subst hO; simpa [std] using h
    have h0 : (0 : Int) ≤ Int.ofNat i := Int.natCast_nonneg i
    refine SW.seq (SW.block ?_)
    refine SW.seqRunD tok mixed hO (by rfl) (by cbv <;> rfl) ?_ ?_
    · exact ⟨⟨h0, Int.ofNat_lt.2 hlt⟩, h0, Int.ofNat_lt.2 hlt⟩
    refine AnyE.dec tok hO (by rfl) (by cbv <;> rfl) (by trivial) (fun h => ?_) (fun h => ?_) <;> refine AnyE.run tok hO (by rfl) (by cbv <;> rfl) (by trivial) ?_
    · refine SW.cond (t := true) (by cbv <;> rfl) ?_
      refine SW.seqRun tok hO (by cbv <;> rfl) (by trivial) ?_
      refine SW.ret ⟨_, _, rfl, rfl, Eqv.bool ?_⟩
      have hb : decide (a i = b i) = false := by
        rw [hnat] at h; subst hO; simpa [std] using h
      unfold intsEq
      rw [allN_false (p := fun i => decide (a i = b i)) hlt hb]; simp
    · refine SW.cond (t := false) (by cbv <;> rfl) (SW.skip ?_)
      refine SW.run tok hO (by cbv <;> rfl) (by trivial) ?_
      refine ⟨i + 1, by omega, ⟨by omega, fun j hj => ?_⟩, Weak.by rfl rfl (by simp) (Nat.le_refl _) (Nat.le_refl _) ⟨⟨rfl, .inl rfl⟩, ⟨rfl, .inl rfl⟩, ⟨rfl, .inl rfl⟩, ⟨inc_ok hO (by omega), .inl rfl⟩, trivial⟩ trivial⟩
      rcases Nat.lt_succ_iff_lt_or_eq.1 hj with hj | rfl
      · exact hall j hj
      · rw [hnat] at h; subst hO; simpa [std] using h
  · have hge : n ≤ i := by subst hO; simpa [std] using h
    refine SW.seqRun tok hO (by cbv <;> rfl) (by trivial) ?_
    refine SW.ret ⟨_, _, rfl, rfl, Eqv.bool ?_⟩
    unfold intsEq
    rw [allN_true (p := fun i => decide (a i = b i)) fun j hj => hall j (by omega)]; simp
def TalD.eqB (x y : TalD) : Bool := intsEq x.n x.bun y.n y.bun && intsEq x.n x.lef y.n y.lef && decide (x.hands = y.hands) && decide (x.loose = y.loose) && decide (x.flats = y.flats) && decide (x.spare = y.spare)
set_option maxHeartbeats 4000000 in
theorem tallyEq_ok (x y : TalD) (hn : x.n < 1000) : Pure Try.prog 56 [talV x, talV y] (.sb (x.eqB y)) := by
  obtain ⟨O, hO⟩ : ∃ O : Ar, O = std := ⟨_, rfl⟩
  have c1 := ints_ok x.n x.eb x.bun y.n y.eb y.bun hn
  have c2 := ints_ok x.n x.el x.lef y.n y.el y.lef hn
  have hv : x.eqB y = (intsEq x.n x.bun y.n y.bun && intsEq x.n x.lef y.n y.lef && decide (x.hands = y.hands) && decide (x.loose = y.loose) && decide (x.flats = y.flats) && decide (x.spare = y.spare)) := rfl
  generalize intsEq x.n x.bun y.n y.bun = p1 at c1 hv
  generalize intsEq x.n x.lef y.n y.lef = p2 at c2 hv
  rw [hv]
  refine pure_of_body tok 3 Try.func56 en56 rfl ⟨talV_below x, talV_below y, trivial⟩ Below.sb ?_
  refine SW.seqRun tok hO (by cbv <;> rfl) (by trivial) ?_
  refine SW.seqRun tok hO (by cbv <;> rfl) (by trivial) ?_
  refine OpsW.callB c1 (by cbv <;> rfl) fun b1 hb1 => ?_
  rw [← hb1]
  refine OpsW.run tok hO (by cbv <;> rfl) (by trivial) ?_
  refine OpsW.splitG (by cbv <;> rfl) (fun h1 => ?_) (fun h1 => ?_) <;> refine OpsW.run tok hO (by cbv <;> rfl) (by trivial) ?_
  · subst h1
    refine OpsW.callB c2 (by cbv <;> rfl) fun b2 hb2 => ?_
    rw [← hb2]
    refine OpsW.run tok hO (by cbv <;> rfl) (by trivial) ?_
    repeat' (refine OpsW.splitG (by cbv <;> rfl) (fun h => ?_) (fun h => ?_) <;> refine OpsW.run tok hO (by cbv <;> rfl) (by trivial) ?_)
    all_goals first
      | refine SW.ret ⟨_, _, rfl, rfl, Eqv.bool (Bool.eq_iff_iff.2 ?_)⟩
      | refine SW.ret ⟨_, _, rfl, rfl, Eqv.sb (Bool.eq_iff_iff.2 ?_)⟩
    all_goals subst hO; simp_all [std]
  · refine SW.ret ⟨_, _, rfl, rfl, Eqv.bool ?_⟩
    rw [h1]; rfl
end Go.Fz
namespace Go.Fz
open Go.Proofs
set_option maxRecDepth 100000
def minI (a b : Int) : Int := if b < a then b else a
def DayD.manyW (d : DayD) : Nat → Int
  | 0 => 1
  | s + 1 => minI 3000 (mul64 (d.manyW s) (size64 (d.wlo s) (d.whi s)))
def DayD.manyL (d : DayD) : Nat → Int
  | 0 => d.manyW d.nw
  | s + 1 => minI 3000 (mul64 (d.manyL s) (size64 (d.llo s) (d.lhi s)))
theorem many_ok (d : DayD) (hs : d.small) : Pure Try.prog 55 [dayV d] (iV (d.manyL d.nl)) := by
  obtain ⟨O, hO⟩ : ∃ O : Ar, O = std := ⟨_, rfl⟩
  have hnw := hs.1
  have hnl := hs.2.1
  refine pure_of_body tok 3 Try.func55 en55 rfl ⟨dayV_below d, trivial⟩ Below.lit ?_
  refine SW.seqRun tok hO (by cbv <;> rfl) (by trivial) ?_
  refine SW.seqRun tok hO (by cbv <;> rfl) (by trivial) ?_
  refine SW.seq ?_
  refine SW.seqRun tok hO (by cbv <;> rfl) (by trivial) ?_
  refine (SW.block (SW.loopF (fun i : Nat => ⟨⟨40, getT [(1, .ptr 0 0), (3, iV (d.manyW i)), (4, iV i)]⟩, []⟩) (fun _ => ⟨[(0, .cells none false (dayC d))], 1⟩) (fun i => d.nw - i) (fun i => i ≤ d.nw) 0
    (fun _ => rfl) (Nat.zero_le _) (Weak.by rfl rfl (by simp) (Nat.le_refl _) (Nat.le_refl _) ⟨⟨rfl, .inl rfl⟩, ⟨rfl, .inl rfl⟩, ⟨rfl, .inl rfl⟩, trivial⟩ ⟨⟨rfl, by omega, .inl rfl⟩, trivial⟩) fun i hi => ?_))
  generalize hacc : d.manyW i = acc
  refine SW.seq ?_
  refine SW.seqRun tok hO (by cbv <;> rfl) (by trivial) ?_
  refine SW.condS (by cbv <;> rfl) (fun h => SW.skip ?_) (fun h => SW.exit ?_)
  · have hlt : i < d.nw := by subst hO; simpa [std] using h
    have h0 : (0 : Int) ≤ Int.ofNat i := Int.natCast_nonneg i
    refine SW.seq (SW.block ?_)
    refine SW.run tok hO (by cbv <;> rfl) ?_ ?_
    · exact ⟨h0, Int.ofNat_lt.2 hlt⟩
    refine OpsW.callI (size61_ok (d.wlo (O.nat (Int.ofNat i))) (d.whi (O.nat (Int.ofNat i)))) (by cbv <;> rfl) fun v hv => ?_
    refine OpsW.run tok hO (by cbv <;> rfl) (by trivial) ?_
    refine SW.run tok hO (by cbv <;> rfl) (by trivial) ?_
    refine ⟨i + 1, by omega, by omega, Weak.by rfl rfl (by simp) (Nat.le_refl _) (Nat.le_refl _) ⟨⟨rfl, .inl rfl⟩, ⟨?_, .inl rfl⟩, ⟨inc_ok hO (by omega), .inl rfl⟩, trivial⟩ ⟨⟨rfl, by omega, .inl rfl⟩, trivial⟩⟩
    subst hO; subst hv; subst hacc; rfl
  have hge : d.nw ≤ i := by subst hO; simpa [std] using h
  have hin : i = d.nw := by omega
  subst hin
  refine SW.seq ?_
  refine SW.seqRun tok hO (by cbv <;> rfl) (by trivial) ?_
  refine (SW.block (SW.loopF (fun i : Nat => ⟨⟨40, getT [(1, .ptr 0 0), (3, iV (d.manyL i)), (5, iV i)]⟩, []⟩) (fun _ => ⟨[(0, .cells none false (dayC d))], 1⟩) (fun i => d.nl - i) (fun i => i ≤ d.nl) 0
    (fun _ => rfl) (Nat.zero_le _) (Weak.by rfl rfl (by simp) (Nat.le_refl _) (Nat.le_refl _) ⟨⟨rfl, .inl rfl⟩, ⟨by rw [← hacc]; rfl, .inl rfl⟩, ⟨rfl, .inl rfl⟩, trivial⟩ ⟨⟨rfl, by omega, .inl rfl⟩, trivial⟩) fun j hj => ?_))
  generalize hacc2 : d.manyL j = acc2
  refine SW.seq ?_
  refine SW.seqRun tok hO (by cbv <;> rfl) (by trivial) ?_
  refine SW.condS (by cbv <;> rfl) (fun h => SW.skip ?_) (fun h => SW.exit ?_)
  · have hlt : j < d.nl := by subst hO; simpa [std] using h
    have h0 : (0 : Int) ≤ Int.ofNat j := Int.natCast_nonneg j
    refine SW.seq (SW.block ?_)
    refine SW.run tok hO (by cbv <;> rfl) ?_ ?_
    · exact ⟨h0, Int.ofNat_lt.2 hlt⟩
    refine OpsW.callI (size61_ok (d.llo (O.nat (Int.ofNat j))) (d.lhi (O.nat (Int.ofNat j)))) (by cbv <;> rfl) fun v hv => ?_
    refine OpsW.run tok hO (by cbv <;> rfl) (by trivial) ?_
    refine SW.run tok hO (by cbv <;> rfl) (by trivial) ?_
    refine ⟨j + 1, by omega, by omega, Weak.by rfl rfl (by simp) (Nat.le_refl _) (Nat.le_refl _) ⟨⟨rfl, .inl rfl⟩, ⟨?_, .inl rfl⟩, ⟨inc_ok hO (by omega), .inl rfl⟩, trivial⟩ ⟨⟨rfl, by omega, .inl rfl⟩, trivial⟩⟩
    subst hO; subst hv; subst hacc2; rfl
  · refine SW.seqRun tok hO (by cbv <;> rfl) (by trivial) ?_
    have hge : d.nl ≤ j := by subst hO; simpa [std] using h
    have hin : j = d.nl := by omega
    subst hin; subst hacc2
    refine SW.ret ⟨_, _, rfl, rfl, Eqv.of rfl⟩
def DayD.cntN (d : DayD) (i : Nat) : Bool := withinB (d.clo i) (d.chi i) 0 20000 && inB (d.ck i) 0 5 && (if 1 < d.ck i then decide (d.cw i = 0) else inB (d.cw i) 0 ((d.nw : Int) - 1))
theorem isCountN_ok (d : DayD) (hs : d.small) (i : Nat) : Pure Try.prog 94 [dayV d, cntV d i] (.sb (d.cntN i)) := by
  obtain ⟨O, hO⟩ : ∃ O : Ar, O = std := ⟨_, rfl⟩
  have hnot : ∀ b, O.not b = !b := fun b => by subst hO; rfl
  have hnw := hs.1
  have c1 := within62_ok (d.clo i) (d.chi i) 0 20000
  have c2 := in_ok (d.ck i) 0 5
  have c3 := in_ok (d.cw i) 0 (O.bin .sub .i64 (Int.ofNat d.nw) 1)
  have hv : d.cntN i = (withinB (d.clo i) (d.chi i) 0 20000 && inB (d.ck i) 0 5 && (if 1 < d.ck i then decide (d.cw i = 0) else inB (d.cw i) 0 (O.bin .sub .i64 (Int.ofNat d.nw) 1))) := by rw [sub1_ok hO hnw]; rfl
  generalize withinB (d.clo i) (d.chi i) 0 20000 = p1 at c1 hv
  generalize inB (d.ck i) 0 5 = p2 at c2 hv
  generalize inB (d.cw i) 0 (O.bin .sub .i64 (Int.ofNat d.nw) 1) = p3 at c3 hv
  rw [hv]
  refine pure_of_body tok 3 Try.func94 en94 rfl ⟨dayV_below d, cntV_below d i, trivial⟩ Below.sb ?_
  refine SW.seqRun tok hO (by cbv <;> rfl) (by trivial) ?_
  refine SW.seq ?_
  refine SW.seqRun tok hO (by cbv <;> rfl) (by trivial) ?_
  refine OpsW.callP c1 (by cbv <;> rfl) ?_
  refine OpsW.run tok hO (by cbv <;> rfl) (by trivial) ?_
  refine OpsW.splitG (by cbv <;> rfl) (fun h1 => ?_) (fun h1 => ?_) <;> refine OpsW.run tok hO (by cbv <;> rfl) (by trivial) ?_
  · refine SW.cond (t := true) (by cbv <;> rfl) ?_
    refine SW.seqRun tok hO (by cbv <;> rfl) (by trivial) ?_
    refine SW.ret ⟨_, _, rfl, rfl, Eqv.bool ?_⟩
    rw [show p1 = false by simpa using (hnot p1).symm.trans h1]; rfl
  obtain rfl : p1 = true := by simpa using (hnot p1).symm.trans h1
  refine OpsW.callP c2 (by cbv <;> rfl) ?_
  refine OpsW.run tok hO (by cbv <;> rfl) (by trivial) ?_
  refine SW.condS (by cbv <;> rfl) (fun h2 => ?_) (fun h2 => SW.skip ?_)
  · refine SW.seqRun tok hO (by cbv <;> rfl) (by trivial) ?_
    refine SW.ret ⟨_, _, rfl, rfl, Eqv.bool ?_⟩
    rw [show p2 = false by simpa using (hnot p2).symm.trans h2]; rfl
  obtain rfl : p2 = true := by simpa using (hnot p2).symm.trans h2
  refine SW.seq ?_
  refine SW.seqRun tok hO (by cbv <;> rfl) (by trivial) ?_
  refine SW.condS (by cbv <;> rfl) (fun h3 => ?_) (fun h3 => SW.skip ?_)
  · have hk : 1 < d.ck i := by subst hO; simpa [std] using h3
    refine SW.seqRun tok hO (by cbv <;> rfl) (by trivial) ?_
    refine SW.ret ⟨_, _, rfl, rfl, Eqv.sb ?_⟩
    rw [if_pos hk]; subst hO; simp [std]; rfl
  · have hk : ¬ 1 < d.ck i := by subst hO; simpa [std] using h3
    refine SW.seqRun tok hO (by cbv <;> rfl) (by trivial) ?_
    refine OpsW.callP c3 (by cbv <;> rfl) ?_
    refine OpsW.run tok hO (by cbv <;> rfl) (by trivial) ?_
    refine SW.ret ⟨_, _, rfl, rfl, Eqv.sb ?_⟩
    rw [if_neg hk]; simp
end Go.Fz
namespace Go.Fz
open Go.Proofs
set_option maxRecDepth 100000
set_option maxHeartbeats 4000000 in
theorem counted_ok (y : TalD) (k : Int) (w : Nat) (hw : w < y.n) (lo hi : Int) : Pure Try.prog 89 [talV y, .agg [iV k, iV w, iV lo, iV hi]] (iV (y.cnt k w)) := by
  obtain ⟨O, hO⟩ : ∃ O : Ar, O = std := ⟨_, rfl⟩
  have hw0 : (0 : Int) ≤ Int.ofNat w := Int.natCast_nonneg w
  have hnat : ∀ i : Nat, O.nat (Int.ofNat i) = i := fun i => by subst hO; rfl
  have hcnt : y.cnt k w = if k = 0 then y.bun (O.nat (Int.ofNat w)) else if k = 1 then y.lef (O.nat (Int.ofNat w)) else if k = 2 then y.hands else if k = 3 then y.loose else if k = 4 then y.flats else y.spare := by rw [hnat]; rfl
  rw [hcnt]
  have hk : ∀ (c : Int) (b : Bool), O.cmp .eql k c = b → (k = c ↔ b = true) := fun c b h => by
    subst hO; rw [← h]; exact (decide_eq_true_iff (p := k = c)).symm
  refine pure_of_body tok 3 Try.func89 en89 rfl ⟨talV_below y, Below.agg (AllB.ok ⟨Below.lit, Below.lit, Below.lit, Below.lit, trivial⟩), trivial⟩ Below.lit ?_
  refine SW.seqRun tok hO (by cbv <;> rfl) (by trivial) ?_
  refine SW.seq ?_
  refine SW.seqRun tok hO (by cbv <;> rfl) (by trivial) ?_
  refine SW.block ?_
  refine SW.seqRun tok hO (by cbv <;> rfl) (by trivial) ?_
  refine SW.condS (by cbv <;> rfl) (fun h0 => ?_) (fun h0 => ?_)
  · refine SW.seqRun tok hO (by cbv <;> rfl) ?_ ?_
    · exact ⟨hw0, Int.ofNat_lt.2 hw⟩
    refine SW.ret ⟨_, _, rfl, rfl, Eqv.int ?_⟩
    rw [if_pos ((hk 0 _ h0).2 rfl)]
  have n0 : ¬ k = 0 := fun h => by have := (hk 0 _ h0).1 h; cases this
  rw [if_neg n0]
  refine SW.seqRun tok hO (by cbv <;> rfl) (by trivial) ?_
  refine SW.condS (by cbv <;> rfl) (fun h1 => ?_) (fun h1 => ?_)
  · refine SW.seqRun tok hO (by cbv <;> rfl) ?_ ?_
    · exact ⟨hw0, Int.ofNat_lt.2 hw⟩
    refine SW.ret ⟨_, _, rfl, rfl, Eqv.int ?_⟩
    rw [if_pos ((hk 1 _ h1).2 rfl)]
  have n1 : ¬ k = 1 := fun h => by have := (hk 1 _ h1).1 h; cases this
  rw [if_neg n1]
  refine SW.seqRun tok hO (by cbv <;> rfl) (by trivial) ?_
  refine SW.condS (by cbv <;> rfl) (fun h2 => ?_) (fun h2 => ?_)
  · refine SW.seqRun tok hO (by cbv <;> rfl) (by trivial) ?_
    refine SW.ret ⟨_, _, rfl, rfl, Eqv.int ?_⟩
    rw [if_pos ((hk 2 _ h2).2 rfl)]
  have n2 : ¬ k = 2 := fun h => by have := (hk 2 _ h2).1 h; cases this
  rw [if_neg n2]
  refine SW.seqRun tok hO (by cbv <;> rfl) (by trivial) ?_
  refine SW.condS (by cbv <;> rfl) (fun h3 => ?_) (fun h3 => ?_)
  · refine SW.seqRun tok hO (by cbv <;> rfl) (by trivial) ?_
    refine SW.ret ⟨_, _, rfl, rfl, Eqv.int ?_⟩
    rw [if_pos ((hk 3 _ h3).2 rfl)]
  have n3 : ¬ k = 3 := fun h => by have := (hk 3 _ h3).1 h; cases this
  rw [if_neg n3]
  refine SW.seqRun tok hO (by cbv <;> rfl) (by trivial) ?_
  refine SW.condS (by cbv <;> rfl) (fun h4 => ?_) (fun h4 => SW.skip ?_)
  · refine SW.seqRun tok hO (by cbv <;> rfl) (by trivial) ?_
    refine SW.ret ⟨_, _, rfl, rfl, Eqv.int ?_⟩
    rw [if_pos ((hk 4 _ h4).2 rfl)]
  have n4 : ¬ k = 4 := fun h => by have := (hk 4 _ h4).1 h; cases this
  rw [if_neg n4]
  refine SW.seqRun tok hO (by cbv <;> rfl) (by trivial) ?_
  exact SW.ret ⟨_, _, rfl, rfl, Eqv.int rfl⟩
end Go.Fz
