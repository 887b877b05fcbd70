/- Own work of the verifier of watercress: FzB9. -/
import Derived.Test.YtpefamheopplnaaMl11
set_option linter.unusedVariables false
set_option linter.unusedSimpArgs false
namespace Go.Fz
open Go.Proofs
set_option maxRecDepth 100000
theorem list_app (n : Nat) (ex : Bool) (fl : Nat → Int) (h0 : 0 < n) (hn : n < 1000) (st : St) :
    appendA T st 56 56 (.lit (.slice none 0 0)) (intsV n ex fl) = some (.sl st.n 0 n 1 false, st.push (.cells none false (flatG 1 (intC fl) n))) := by
  obtain ⟨b1, e1⟩ : ∃ b, T 56 = some { desc := .slice 3, size := 1, bytes := 24, zero := [.slice none 0 0], flat := b } := ⟨_, rfl⟩
  obtain ⟨b2, e2⟩ : ∃ b, T 3 = some { desc := .int .i64, size := 1, bytes := 8, zero := [.int .i64 0], flat := b } := ⟨_, rfl⟩
  have hall := flatG_one (sz := 1) (intC_one fl) n
  unfold appendA
  simp only [e1, e2, slCells, intsV, slLen]
  rw [if_pos ⟨trivial, by decide⟩]
  simp only [Nat.zero_add]
  rw [if_neg (by rw [hall]; simp; omega)]
  exact if_neg (by omega)
theorem list_app0 (ex : Bool) (fl : Nat → Int) (st : St) : appendA T st 56 56 (.lit (.slice none 0 0)) (intsV 0 ex fl) = some (.lit (.slice none 0 0), st) := by
  obtain ⟨b1, e1⟩ : ∃ b, T 56 = some { desc := .slice 3, size := 1, bytes := 24, zero := [.slice none 0 0], flat := b } := ⟨_, rfl⟩
  obtain ⟨b2, e2⟩ : ∃ b, T 3 = some { desc := .int .i64, size := 1, bytes := 8, zero := [.int .i64 0], flat := b } := ⟨_, rfl⟩
  unfold appendA
  simp only [e1, e2, slCells, intsV, slLen]
  rfl
theorem list_ok (n : Nat) (ex : Bool) (fl : Nat → Int) (hn : n < 1000) : Pure Try.prog 90 [intsV n ex fl] (intsV n false fl) := by
  refine pure_of_body tok 3 Try.func90 en90 rfl ⟨intsV_below n ex fl, trivial⟩ (intsV_below n false fl) ?_
  obtain ⟨O, hO⟩ : ∃ O : Ar, O = std := ⟨_, rfl⟩
  refine SW.seqRun tok hO (by cbv <;> rfl) (by trivial) ?_
  refine SW.seq (SW.regionL (l := [0, 1, 2]) rfl ?_)
  refine OpsW.light tok rfl rfl (r := intsV n ex fl) (by rfl) ?_
  rcases Nat.eq_zero_or_pos n with hz | hz
  · subst hz
    refine OpsW.append tok rfl rfl (r := .lit (.slice none 0 0)) (st' := ⟨[], 0⟩) (by exact list_app0 ex fl _) ?_
    refine OpsW.light tok rfl rfl (r := .lit (.slice none 0 0)) (by rfl) ?_
    refine OpsW.nil ?_
    exact SW.ret ⟨_, _, rfl, rfl, Eqv.nil⟩
  · refine OpsW.append tok rfl rfl (r := .sl 0 0 n 1 false) (st' := ⟨[(0, .cells none false (flatG 1 (intC fl) n))], 1⟩) (by exact list_app n ex fl hz hn _) ?_
    refine OpsW.light tok rfl rfl (r := .sl 0 0 n 1 false) (by rfl) ?_
    refine OpsW.nil ?_
    refine SW.ret ⟨_, _, rfl, rfl, ?_⟩
    show Eqv (frz _ _ 3 (.sl 0 0 n 1 false)) _
    rw [frz_slE (fm := none) (G := flatG 1 (intC fl) n) rfl rfl (by rw [flatG_length]; omega)]
    exact Eqv.isl rfl fun i k hi hk => Eqv.of (frz_flat hi hk rfl)
def TruD.copy (t : TruD) : TruD := { t with ef := false, es := false }
theorem truth_ok (t : TruD) (hf : t.nf < 1000) (hn : t.ns < 1000) : Pure Try.prog 43 [truV t] (truV t.copy) := by
  obtain ⟨O, hO⟩ : ∃ O : Ar, O = std := ⟨_, rfl⟩
  refine pure_of_body tok 3 Try.func43 en43 rfl ⟨truV_below t, trivial⟩ (truV_below _) ?_
  refine SW.seqRun tok hO (by cbv <;> rfl) (by trivial) ?_
  refine SW.seqRunD tok mixed hO (by rfl) (by cbv <;> rfl) (by trivial) ?_
  refine AnyE.callP (list_ok t.nf t.ef t.fe hf) (by cbv <;> rfl) (by cbv <;> rfl) ?_
  refine AnyE.run tok hO (by rfl) (by cbv <;> rfl) (by trivial) ?_
  refine AnyE.callP (list_ok t.ns t.es t.st hn) (by cbv <;> rfl) (by cbv <;> rfl) ?_
  refine AnyE.run tok hO (by rfl) (by cbv <;> rfl) (by trivial) ?_
  refine AnyE.eff tok hO (by cbv <;> rfl) (by cbv <;> rfl) (by trivial) ?_
  refine AnyE.done (by rfl) ?_
  exact SW.ret ⟨_, _, rfl, rfl, Eqv.of rfl⟩
def objG (id sz : Nat) (g : Nat → Nat → AV) : Nat → Hp
  | 0 => []
  | n + 1 => [(id, .cells none false (flatG sz g (n + 1)))]
theorem objG_mem {id sz : Nat} {g : Nat → Nat → AV} : ∀ {n : Nat} {p : Nat × AObj}, p ∈ objG id sz g n → p = (id, .cells none false (flatG sz g n))
  | 0, p, h => by cases h
  | n + 1, p, h => by simpa [objG] using h
def day0 : List AV := [iV 0, iV 0, nl3, nl3, nl3]
theorem day0_below : ∀ a ∈ day0, Below 0 a := AllB.ok ⟨Below.lit, Below.lit, Below.lit, Below.lit, Below.lit, trivial⟩
def dayS (d : DayD) (A B C : AV) (H : Hp) (n : Nat) : St := ⟨[(2, .cells none false [iV d.hand, iV d.flat, A, B, C]), (1, .cells none false day0), (0, .cells none false (dayC d))] ++ H, n⟩
def midF (mk : AV → St) (a : AV) (e : Exit) (fm : Fm) (st : St) : Prop :=
  e = .normal ∧ ∃ g X, fm = ⟨⟨83, g⟩, []⟩ ∧ g 1 = .ptr 0 0 ∧ g 2 = .ptr 1 0 ∧ g 3 = .ptr 2 0 ∧ Eqv X a ∧ (X = nl3 ∨ ∃ len sz h, X = .isl len sz false h) ∧ st = mk X
theorem cntC_below (d : DayD) (i k : Nat) : Below 0 (cntC d i k) := by unfold cntC; split <;> exact Below.lit
set_option maxHeartbeats 8000000 in
theorem day_ok (d : DayD) (hw : d.nw ≤ 6) (hl : d.nl ≤ 6) (hc : d.nc ≤ 7) : Pure Try.prog 19 [dayV d] (dayV d) := by
  obtain ⟨O, hO⟩ : ∃ O : Ar, O = std := ⟨_, rfl⟩
  have hnat : ∀ i : Nat, O.nat (Int.ofNat i) = i := fun i => by subst hO; rfl
  refine pure_of_body tok 3 Try.func19 en19 rfl ⟨dayV_below d, trivial⟩ (dayV_below d) ?_
  refine SW.seqRun tok hO (by cbv <;> rfl) (by trivial) ?_
  refine SW.seqRun tok hO (by cbv <;> rfl) (by trivial) ?_
  refine SW.seq (SW.mono (Q := midF (fun X => dayS d (X) (nl3) (nl3) [] 4) (womsV d)) ?_ ?_)
  · refine SW.seqRun tok hO (by cbv <;> rfl) (by trivial) ?_
    refine (SW.block (SW.loopR (fun i : Nat => ⟨⟨83, getT [(1, .ptr 0 0), (2, .ptr 1 0), (3, .ptr 2 0), (4, iV i)]⟩, []⟩) (fun i => dayS d (slG 3 2 i) (nl3) (nl3) (objG 3 2 (womC d) i) 4) (fun i => d.nw - i) (fun i => i ≤ d.nw) 0 (Nat.zero_le _) (ren1 3 3) ?_ fun i hi => ?_))
    · exact WeakR.up rfl rfl (by simp) (Nat.le_refl _) (.inl rfl) (by show 3 ≤ 4; omega) ⟨RenV.ptr (by omega), RenV.ptr (by omega), RenV.ptr (by omega), RenV.closed Below.lit, trivial⟩ ⟨⟨by omega, _, rfl, .cells (.cons (RenV.closed Below.lit) (.cons (RenV.closed Below.lit) (.cons (RenV.closed Below.lit) (.cons (RenV.closed Below.lit) (.cons (RenV.closed Below.lit) .nil))))), .inr rfl⟩, ⟨by omega, _, rfl, .cells (RenVs.closed day0_below), .inr rfl⟩, ⟨by omega, _, rfl, .cells (RenVs.closed (dayC_below d)), .inr rfl⟩, trivial⟩ (fun p hp => by cases hp)
    cases i with
    | zero =>
      refine SW.seq ?_
      refine SW.seqRun tok hO (by cbv <;> rfl) (by trivial) ?_
      refine SW.condS (by cbv <;> rfl) (fun h => SW.skip ?_) (fun h => ?_)
      · have hlt : 0 < d.nw := by subst hO; simpa [std] using h
        have h0 : (0 : Int) ≤ Int.ofNat 0 := Int.natCast_nonneg 0
        refine SW.seq (SW.block ?_)
        have call := to_ok (d.wlo 0) (d.whi 0)
        rw [← hnat 0] at call
        refine SW.runD tok mixed hO (by rfl) (by cbv <;> rfl) ?_ ?_
        · exact ⟨h0, Int.ofNat_lt.2 hlt⟩
        refine AnyE.callP call (by cbv <;> rfl) (by cbv <;> rfl) ?_
        refine AnyE.run tok hO (by rfl) (by cbv <;> rfl) (by trivial) ?_
        refine AnyE.effK tok hO (by cbv <;> rfl) (by cbv <;> rfl) (by trivial) ?_ ?_
        · exact ⟨by cbv <;> rfl, by cbv <;> rfl, trivial⟩
        refine AnyE.appNil tok (by cbv <;> rfl) (by cbv <;> rfl) (by rfl) (by kernel_rfl) (by rfl) (by rfl) ?_
        refine AnyE.run tok hO (by rfl) (by cbv <;> rfl) (by trivial) ?_
        refine AnyE.eff tok hO (by cbv <;> rfl) (by cbv <;> rfl) (by trivial) ?_
        refine AnyE.done (by rfl) ?_
        refine SW.run tok hO (by cbv <;> rfl) (by trivial) ?_
        refine ⟨1, by omega, by omega, ren1 3 5, ?_⟩
        refine WeakR.up rfl rfl (by simp) (Nat.le_refl _) (.inr (by omega)) (by show 3 ≤ 4; omega) ⟨RenV.ptr (by omega), RenV.ptr (by omega), RenV.ptr (by omega), RenV.inc hO (by omega), trivial⟩
          ⟨⟨by omega, _, rfl, .cells (.cons (RenV.closed Below.lit) (.cons (RenV.closed Below.lit) (.cons (RenV.sl (by omega)) (.cons (RenV.closed Below.lit) (.cons (RenV.closed Below.lit) .nil))))), .inr rfl⟩, ⟨by omega, _, rfl, .cells (RenVs.closed day0_below), .inr rfl⟩, ⟨by omega, _, rfl, .cells (RenVs.closed (dayC_below d)), .inr rfl⟩, trivial⟩ (fun p hp => ?_)
        obtain rfl := objG_mem hp
        exact ⟨by omega, _, rfl, .cells (RenVs.of_eq (by subst hO; rfl) (flatG_below (womC_below d) 1)), .inl rfl⟩
      · have hz : d.nw = 0 := by
          have : d.nw ≤ 0 := by subst hO; simpa [std] using h
          omega
        refine SW.exit ⟨rfl, _, nl3, rfl, rfl, rfl, rfl, ?_, .inl rfl, rfl⟩
        show Eqv nl3 (.isl d.nw 2 false (womC d))
        rw [hz]; exact Eqv.nil
    | succ i =>
      obtain ⟨G, hG⟩ : ∃ G, G = flatG 2 (womC d) (i + 1) := ⟨_, rfl⟩
      have hGo : objG 3 2 (womC d) (i + 1) = [(3, .cells none false G)] := by rw [hG]; rfl
      show SW _ _ _ _ _ (dayS d (.sl 3 0 (i + 1) 2 false) (nl3) (nl3) (objG 3 2 (womC d) (i + 1)) 4)
      rw [hGo]
      refine SW.seq ?_
      refine SW.seqRun tok hO (by cbv <;> rfl) (by trivial) ?_
      refine SW.condS (by cbv <;> rfl) (fun h => SW.skip ?_) (fun h => ?_)
      · have hlt : i + 1 < d.nw := by
          have : ((i + 1 : Nat) : Int) < (d.nw : Int) := by subst hO; simpa [std] using h
          omega
        have h0 : (0 : Int) ≤ Int.ofNat (i + 1) := Int.natCast_nonneg (i + 1)
        refine SW.seq (SW.block ?_)
        have call := to_ok (d.wlo (i + 1)) (d.whi (i + 1))
        rw [← hnat (i + 1)] at call
        refine SW.runD tok mixed hO (by rfl) (by cbv <;> rfl) ?_ ?_
        · exact ⟨h0, Int.ofNat_lt.2 hlt⟩
        refine AnyE.callP call (by cbv <;> rfl) (by cbv <;> rfl) ?_
        refine AnyE.run tok hO (by rfl) (by cbv <;> rfl) (by trivial) ?_
        refine AnyE.effK tok hO (by cbv <;> rfl) (by cbv <;> rfl) (by trivial) ?_ ?_
        · exact ⟨by cbv <;> rfl, by cbv <;> rfl, trivial⟩
        refine AnyE.appOne (g := womC d) tok (by cbv <;> rfl) (by cbv <;> rfl) (by rfl) (by rfl) hG (by kernel_rfl) (by rfl) (by rfl) (by omega) fun G' hG' => ?_
        refine AnyE.run tok hO (by rfl) (by cbv <;> rfl) (by trivial) ?_
        refine AnyE.eff tok hO (by cbv <;> rfl) (by cbv <;> rfl) (by trivial) ?_
        refine AnyE.done (by rfl) ?_
        refine SW.run tok hO (by cbv <;> rfl) (by trivial) ?_
        refine ⟨i + 1 + 1, by omega, by omega, ren1 3 5, ?_⟩
        refine WeakR.up rfl rfl (by simp) (Nat.le_refl _) (.inr (by omega)) (by show 3 ≤ 4; omega) ⟨RenV.ptr (by omega), RenV.ptr (by omega), RenV.ptr (by omega), RenV.inc hO (by omega), trivial⟩
          ⟨⟨by omega, _, rfl, .cells (.cons (RenV.closed Below.lit) (.cons (RenV.closed Below.lit) (.cons (RenV.sl (by omega)) (.cons (RenV.closed Below.lit) (.cons (RenV.closed Below.lit) .nil))))), .inr rfl⟩, ⟨by omega, _, rfl, .cells (RenVs.closed day0_below), .inr rfl⟩, ⟨by omega, _, rfl, .cells (RenVs.closed (dayC_below d)), .inr rfl⟩, trivial⟩ (fun p hp => ?_)
        obtain rfl := objG_mem hp
        exact ⟨by omega, _, rfl, .cells (RenVs.of_eq (hG'.trans (by subst hO; rfl)) (flatG_below (womC_below d) (i + 1 + 1))), .inl rfl⟩
      · have hz : d.nw = i + 1 := by
          have : (d.nw : Int) ≤ ((i + 1 : Nat) : Int) := by subst hO; simpa [std] using h
          omega
        have hlG : (i + 1) * 2 ≤ G.length := by rw [hG, flatG_length]; omega
        refine SW.freezeZ (fun j => Nat.beq j 3) 3 (by rfl) (SW.exit ⟨rfl, _, _, rfl, rfl, rfl, rfl, ?_, ?_, rfl⟩)
        rotate_left
        · exact .inr ⟨_, _, _, frz_slE (fm := none) (G := G) rfl rfl hlG⟩
        show Eqv (frz _ _ 3 (.sl 3 0 (i + 1) 2 false)) (.isl d.nw 2 false (womC d))
        rw [hz, frz_slE (fm := none) (G := G) rfl rfl hlG, hG]
        exact Eqv.isl rfl fun i' k hi' hk => Eqv.of (frz_flat hi' hk (by unfold womC; split <;> rfl))
  rintro e fm st ⟨rfl, g, A, rfl, g1, g2, g3, hA, _, rfl⟩
  refine SW.seq (SW.mono (Q := midF (fun X => dayS d (womsV d) (X) (nl3) [] 5) (lotsV d)) ?_ ?_)
  · refine SW.seqRun tok hO (by cbv <;> rfl) (by trivial) ?_
    refine (SW.block (SW.loopR (fun i : Nat => ⟨⟨83, getT [(1, .ptr 0 0), (2, .ptr 1 0), (3, .ptr 2 0), (5, iV i)]⟩, []⟩) (fun i => dayS d (womsV d) (slG 4 3 i) (nl3) (objG 4 3 (lotC d) i) 5) (fun i => d.nl - i) (fun i => i ≤ d.nl) 0 (Nat.zero_le _) (ren1 4 4) ?_ fun i hi => ?_))
    · refine WeakR.up rfl rfl (by simp) (Nat.le_refl _) (.inl rfl) (by show 4 ≤ 5; omega) ⟨?_, ?_, ?_, RenV.closed Below.lit, trivial⟩ ⟨⟨by omega, _, rfl, .cells (.cons (RenV.closed Below.lit) (.cons (RenV.closed Below.lit) (.cons (RenV.eqv (RenV.closed (womsV_below d)) hA) (.cons (RenV.closed Below.lit) (.cons (RenV.closed Below.lit) .nil))))), .inr rfl⟩, ⟨by omega, _, rfl, .cells (RenVs.closed day0_below), .inr rfl⟩, ⟨by omega, _, rfl, .cells (RenVs.closed (dayC_below d)), .inr rfl⟩, trivial⟩ (fun p hp => by cases hp)
      · show RenV _ _ _ (g 1); rw [g1]; exact RenV.ptr (by omega)
      · show RenV _ _ _ (g 2); rw [g2]; exact RenV.ptr (by omega)
      · show RenV _ _ _ (g 3); rw [g3]; exact RenV.ptr (by omega)
    cases i with
    | zero =>
      refine SW.seq ?_
      refine SW.seqRun tok hO (by cbv <;> rfl) (by trivial) ?_
      refine SW.condS (by cbv <;> rfl) (fun h => SW.skip ?_) (fun h => ?_)
      · have hlt : 0 < d.nl := by subst hO; simpa [std] using h
        have h0 : (0 : Int) ≤ Int.ofNat 0 := Int.natCast_nonneg 0
        refine SW.seq (SW.block ?_)
        have call := to_ok (d.llo 0) (d.lhi 0)
        rw [← hnat 0] at call
        refine SW.runD tok mixed hO (by rfl) (by cbv <;> rfl) ?_ ?_
        · first | exact ⟨⟨h0, Int.ofNat_lt.2 hlt⟩, h0, Int.ofNat_lt.2 hlt⟩ | exact ⟨h0, Int.ofNat_lt.2 hlt⟩
        refine AnyE.callP call (by cbv <;> rfl) (by cbv <;> rfl) ?_
        refine AnyE.run tok hO (by rfl) (by cbv <;> rfl) (by trivial) ?_
        refine AnyE.effK tok hO (by cbv <;> rfl) (by cbv <;> rfl) (by trivial) ?_ ?_
        · exact ⟨by cbv <;> rfl, by cbv <;> rfl, trivial⟩
        refine AnyE.appNil tok (by cbv <;> rfl) (by cbv <;> rfl) (by rfl) (by kernel_rfl) (by rfl) (by rfl) ?_
        refine AnyE.run tok hO (by rfl) (by cbv <;> rfl) (by trivial) ?_
        refine AnyE.eff tok hO (by cbv <;> rfl) (by cbv <;> rfl) (by trivial) ?_
        refine AnyE.done (by rfl) ?_
        refine SW.run tok hO (by cbv <;> rfl) (by trivial) ?_
        refine ⟨1, by omega, by omega, ren1 4 6, ?_⟩
        refine WeakR.up rfl rfl (by simp) (Nat.le_refl _) (.inr (by omega)) (by show 4 ≤ 5; omega) ⟨RenV.ptr (by omega), RenV.ptr (by omega), RenV.ptr (by omega), RenV.inc hO (by omega), trivial⟩
          ⟨⟨by omega, _, rfl, .cells (.cons (RenV.closed Below.lit) (.cons (RenV.closed Below.lit) (.cons (RenV.closed (womsV_below d)) (.cons (RenV.sl (by omega)) (.cons (RenV.closed Below.lit) .nil))))), .inr rfl⟩, ⟨by omega, _, rfl, .cells (RenVs.closed day0_below), .inr rfl⟩, ⟨by omega, _, rfl, .cells (RenVs.closed (dayC_below d)), .inr rfl⟩, trivial⟩ (fun p hp => ?_)
        obtain rfl := objG_mem hp
        exact ⟨by omega, _, rfl, .cells (RenVs.of_eq (by subst hO; rfl) (flatG_below (lotC_below d) 1)), .inl rfl⟩
      · have hz : d.nl = 0 := by
          have : d.nl ≤ 0 := by subst hO; simpa [std] using h
          omega
        refine SW.exit ⟨rfl, _, nl3, rfl, rfl, rfl, rfl, ?_, .inl rfl, rfl⟩
        show Eqv nl3 (.isl d.nl 3 false (lotC d))
        rw [hz]; exact Eqv.nil
    | succ i =>
      obtain ⟨G, hG⟩ : ∃ G, G = flatG 3 (lotC d) (i + 1) := ⟨_, rfl⟩
      have hGo : objG 4 3 (lotC d) (i + 1) = [(4, .cells none false G)] := by rw [hG]; rfl
      show SW _ _ _ _ _ (dayS d (womsV d) (.sl 4 0 (i + 1) 3 false) (nl3) (objG 4 3 (lotC d) (i + 1)) 5)
      rw [hGo]
      refine SW.seq ?_
      refine SW.seqRun tok hO (by cbv <;> rfl) (by trivial) ?_
      refine SW.condS (by cbv <;> rfl) (fun h => SW.skip ?_) (fun h => ?_)
      · have hlt : i + 1 < d.nl := by
          have : ((i + 1 : Nat) : Int) < (d.nl : Int) := by subst hO; simpa [std] using h
          omega
        have h0 : (0 : Int) ≤ Int.ofNat (i + 1) := Int.natCast_nonneg (i + 1)
        refine SW.seq (SW.block ?_)
        have call := to_ok (d.llo (i + 1)) (d.lhi (i + 1))
        rw [← hnat (i + 1)] at call
        refine SW.runD tok mixed hO (by rfl) (by cbv <;> rfl) ?_ ?_
        · first | exact ⟨⟨h0, Int.ofNat_lt.2 hlt⟩, h0, Int.ofNat_lt.2 hlt⟩ | exact ⟨h0, Int.ofNat_lt.2 hlt⟩
        refine AnyE.callP call (by cbv <;> rfl) (by cbv <;> rfl) ?_
        refine AnyE.run tok hO (by rfl) (by cbv <;> rfl) (by trivial) ?_
        refine AnyE.effK tok hO (by cbv <;> rfl) (by cbv <;> rfl) (by trivial) ?_ ?_
        · exact ⟨by cbv <;> rfl, by cbv <;> rfl, trivial⟩
        refine AnyE.appOne (g := lotC d) tok (by cbv <;> rfl) (by cbv <;> rfl) (by rfl) (by rfl) hG (by kernel_rfl) (by rfl) (by rfl) (by omega) fun G' hG' => ?_
        refine AnyE.run tok hO (by rfl) (by cbv <;> rfl) (by trivial) ?_
        refine AnyE.eff tok hO (by cbv <;> rfl) (by cbv <;> rfl) (by trivial) ?_
        refine AnyE.done (by rfl) ?_
        refine SW.run tok hO (by cbv <;> rfl) (by trivial) ?_
        refine ⟨i + 1 + 1, by omega, by omega, ren1 4 6, ?_⟩
        refine WeakR.up rfl rfl (by simp) (Nat.le_refl _) (.inr (by omega)) (by show 4 ≤ 5; omega) ⟨RenV.ptr (by omega), RenV.ptr (by omega), RenV.ptr (by omega), RenV.inc hO (by omega), trivial⟩
          ⟨⟨by omega, _, rfl, .cells (.cons (RenV.closed Below.lit) (.cons (RenV.closed Below.lit) (.cons (RenV.closed (womsV_below d)) (.cons (RenV.sl (by omega)) (.cons (RenV.closed Below.lit) .nil))))), .inr rfl⟩, ⟨by omega, _, rfl, .cells (RenVs.closed day0_below), .inr rfl⟩, ⟨by omega, _, rfl, .cells (RenVs.closed (dayC_below d)), .inr rfl⟩, trivial⟩ (fun p hp => ?_)
        obtain rfl := objG_mem hp
        exact ⟨by omega, _, rfl, .cells (RenVs.of_eq (hG'.trans (by subst hO; rfl)) (flatG_below (lotC_below d) (i + 1 + 1))), .inl rfl⟩
      · have hz : d.nl = i + 1 := by
          have : (d.nl : Int) ≤ ((i + 1 : Nat) : Int) := by subst hO; simpa [std] using h
          omega
        have hlG : (i + 1) * 3 ≤ G.length := by rw [hG, flatG_length]; omega
        refine SW.freezeZ (fun j => Nat.beq j 4) 3 (by rfl) (SW.exit ⟨rfl, _, _, rfl, rfl, rfl, rfl, ?_, ?_, rfl⟩)
        rotate_left
        · exact .inr ⟨_, _, _, frz_slE (fm := none) (G := G) rfl rfl hlG⟩
        show Eqv (frz _ _ 3 (.sl 4 0 (i + 1) 3 false)) (.isl d.nl 3 false (lotC d))
        rw [hz, frz_slE (fm := none) (G := G) rfl rfl hlG, hG]
        exact Eqv.isl rfl fun i' k hi' hk => Eqv.of (frz_flat hi' hk (by unfold lotC; split <;> rfl))
  rintro e fm st ⟨rfl, g, A, rfl, g1, g2, g3, hA, _, rfl⟩
  refine SW.seq (SW.mono (Q := midF (fun X => dayS d (womsV d) (lotsV d) (X) [] 6) (cntsV d)) ?_ ?_)
  · refine SW.seqRun tok hO (by cbv <;> rfl) (by trivial) ?_
    refine (SW.block (SW.loopR (fun i : Nat => ⟨⟨83, getT [(1, .ptr 0 0), (2, .ptr 1 0), (3, .ptr 2 0), (6, iV i)]⟩, []⟩) (fun i => dayS d (womsV d) (lotsV d) (slG 5 4 i) (objG 5 4 (cntC d) i) 6) (fun i => d.nc - i) (fun i => i ≤ d.nc) 0 (Nat.zero_le _) (ren1 5 5) ?_ fun i hi => ?_))
    · refine WeakR.up rfl rfl (by simp) (Nat.le_refl _) (.inl rfl) (by show 5 ≤ 6; omega) ⟨?_, ?_, ?_, RenV.closed Below.lit, trivial⟩ ⟨⟨by omega, _, rfl, .cells (.cons (RenV.closed Below.lit) (.cons (RenV.closed Below.lit) (.cons (RenV.closed (womsV_below d)) (.cons (RenV.eqv (RenV.closed (lotsV_below d)) hA) (.cons (RenV.closed Below.lit) .nil))))), .inr rfl⟩, ⟨by omega, _, rfl, .cells (RenVs.closed day0_below), .inr rfl⟩, ⟨by omega, _, rfl, .cells (RenVs.closed (dayC_below d)), .inr rfl⟩, trivial⟩ (fun p hp => by cases hp)
      · show RenV _ _ _ (g 1); rw [g1]; exact RenV.ptr (by omega)
      · show RenV _ _ _ (g 2); rw [g2]; exact RenV.ptr (by omega)
      · show RenV _ _ _ (g 3); rw [g3]; exact RenV.ptr (by omega)
    cases i with
    | zero =>
      refine SW.seq ?_
      refine SW.seqRun tok hO (by cbv <;> rfl) (by trivial) ?_
      refine SW.condS (by cbv <;> rfl) (fun h => SW.skip ?_) (fun h => ?_)
      · have hlt : 0 < d.nc := by subst hO; simpa [std] using h
        have h0 : (0 : Int) ≤ Int.ofNat 0 := Int.natCast_nonneg 0
        refine SW.seq (SW.block ?_)
        have call := to_ok (d.clo 0) (d.chi 0)
        rw [← hnat 0] at call
        refine SW.seqRun tok hO (by cbv <;> rfl) ?_ ?_
        · exact ⟨h0, Int.ofNat_lt.2 hlt⟩
        refine SW.runD tok mixed hO (by rfl) (by cbv <;> rfl) (by trivial) ?_
        refine AnyE.callP call (by cbv <;> rfl) (by cbv <;> rfl) ?_
        refine AnyE.run tok hO (by rfl) (by cbv <;> rfl) (by trivial) ?_
        refine AnyE.effK tok hO (by cbv <;> rfl) (by cbv <;> rfl) (by trivial) ?_ ?_
        · exact ⟨by cbv <;> rfl, by cbv <;> rfl, trivial⟩
        refine AnyE.appNil tok (by cbv <;> rfl) (by cbv <;> rfl) (by rfl) (by kernel_rfl) (by rfl) (by rfl) ?_
        refine AnyE.run tok hO (by rfl) (by cbv <;> rfl) (by trivial) ?_
        refine AnyE.eff tok hO (by cbv <;> rfl) (by cbv <;> rfl) (by trivial) ?_
        refine AnyE.done (by rfl) ?_
        refine SW.run tok hO (by cbv <;> rfl) (by trivial) ?_
        refine ⟨1, by omega, by omega, ren1 5 8, ?_⟩
        refine WeakR.up rfl rfl (by simp) (Nat.le_refl _) (.inr (by omega)) (by show 5 ≤ 6; omega) ⟨RenV.ptr (by omega), RenV.ptr (by omega), RenV.ptr (by omega), RenV.inc hO (by omega), trivial⟩
          ⟨⟨by omega, _, rfl, .cells (.cons (RenV.closed Below.lit) (.cons (RenV.closed Below.lit) (.cons (RenV.closed (womsV_below d)) (.cons (RenV.closed (lotsV_below d)) (.cons (RenV.sl (by omega)) .nil))))), .inr rfl⟩, ⟨by omega, _, rfl, .cells (RenVs.closed day0_below), .inr rfl⟩, ⟨by omega, _, rfl, .cells (RenVs.closed (dayC_below d)), .inr rfl⟩, trivial⟩ (fun p hp => ?_)
        obtain rfl := objG_mem hp
        exact ⟨by omega, _, rfl, .cells (RenVs.of_eq (by subst hO; rfl) (flatG_below (cntC_below d) 1)), .inl rfl⟩
      · have hz : d.nc = 0 := by
          have : d.nc ≤ 0 := by subst hO; simpa [std] using h
          omega
        refine SW.exit ⟨rfl, _, nl3, rfl, rfl, rfl, rfl, ?_, .inl rfl, rfl⟩
        show Eqv nl3 (.isl d.nc 4 false (cntC d))
        rw [hz]; exact Eqv.nil
    | succ i =>
      obtain ⟨G, hG⟩ : ∃ G, G = flatG 4 (cntC d) (i + 1) := ⟨_, rfl⟩
      have hGo : objG 5 4 (cntC d) (i + 1) = [(5, .cells none false G)] := by rw [hG]; rfl
      show SW _ _ _ _ _ (dayS d (womsV d) (lotsV d) (.sl 5 0 (i + 1) 4 false) (objG 5 4 (cntC d) (i + 1)) 6)
      rw [hGo]
      refine SW.seq ?_
      refine SW.seqRun tok hO (by cbv <;> rfl) (by trivial) ?_
      refine SW.condS (by cbv <;> rfl) (fun h => SW.skip ?_) (fun h => ?_)
      · have hlt : i + 1 < d.nc := by
          have : ((i + 1 : Nat) : Int) < (d.nc : Int) := by subst hO; simpa [std] using h
          omega
        have h0 : (0 : Int) ≤ Int.ofNat (i + 1) := Int.natCast_nonneg (i + 1)
        refine SW.seq (SW.block ?_)
        have call := to_ok (d.clo (i + 1)) (d.chi (i + 1))
        rw [← hnat (i + 1)] at call
        refine SW.seqRun tok hO (by cbv <;> rfl) ?_ ?_
        · exact ⟨h0, Int.ofNat_lt.2 hlt⟩
        refine SW.runD tok mixed hO (by rfl) (by cbv <;> rfl) (by trivial) ?_
        refine AnyE.callP call (by cbv <;> rfl) (by cbv <;> rfl) ?_
        refine AnyE.run tok hO (by rfl) (by cbv <;> rfl) (by trivial) ?_
        refine AnyE.effK tok hO (by cbv <;> rfl) (by cbv <;> rfl) (by trivial) ?_ ?_
        · exact ⟨by cbv <;> rfl, by cbv <;> rfl, trivial⟩
        refine AnyE.appOne (g := cntC d) tok (by cbv <;> rfl) (by cbv <;> rfl) (by rfl) (by rfl) hG (by kernel_rfl) (by rfl) (by rfl) (by omega) fun G' hG' => ?_
        refine AnyE.run tok hO (by rfl) (by cbv <;> rfl) (by trivial) ?_
        refine AnyE.eff tok hO (by cbv <;> rfl) (by cbv <;> rfl) (by trivial) ?_
        refine AnyE.done (by rfl) ?_
        refine SW.run tok hO (by cbv <;> rfl) (by trivial) ?_
        refine ⟨i + 1 + 1, by omega, by omega, ren1 5 8, ?_⟩
        refine WeakR.up rfl rfl (by simp) (Nat.le_refl _) (.inr (by omega)) (by show 5 ≤ 6; omega) ⟨RenV.ptr (by omega), RenV.ptr (by omega), RenV.ptr (by omega), RenV.inc hO (by omega), trivial⟩
          ⟨⟨by omega, _, rfl, .cells (.cons (RenV.closed Below.lit) (.cons (RenV.closed Below.lit) (.cons (RenV.closed (womsV_below d)) (.cons (RenV.closed (lotsV_below d)) (.cons (RenV.sl (by omega)) .nil))))), .inr rfl⟩, ⟨by omega, _, rfl, .cells (RenVs.closed day0_below), .inr rfl⟩, ⟨by omega, _, rfl, .cells (RenVs.closed (dayC_below d)), .inr rfl⟩, trivial⟩ (fun p hp => ?_)
        obtain rfl := objG_mem hp
        exact ⟨by omega, _, rfl, .cells (RenVs.of_eq (hG'.trans (by subst hO; rfl)) (flatG_below (cntC_below d) (i + 1 + 1))), .inl rfl⟩
      · have hz : d.nc = i + 1 := by
          have : (d.nc : Int) ≤ ((i + 1 : Nat) : Int) := by subst hO; simpa [std] using h
          omega
        have hlG : (i + 1) * 4 ≤ G.length := by rw [hG, flatG_length]; omega
        refine SW.freezeZ (fun j => Nat.beq j 5) 3 (by rfl) (SW.exit ⟨rfl, _, _, rfl, rfl, rfl, rfl, ?_, ?_, rfl⟩)
        rotate_left
        · exact .inr ⟨_, _, _, frz_slE (fm := none) (G := G) rfl rfl hlG⟩
        show Eqv (frz _ _ 3 (.sl 5 0 (i + 1) 4 false)) (.isl d.nc 4 false (cntC d))
        rw [hz, frz_slE (fm := none) (G := G) rfl rfl hlG, hG]
        exact Eqv.isl rfl fun i' k hi' hk => Eqv.of (frz_flat hi' hk (by unfold cntC; split <;> rfl))
  rintro e fm st ⟨rfl, g, A, rfl, g1, g2, g3, hA, hform, rfl⟩
  rw [← updT_self g1, ← updT_self g2, ← updT_self g3]
  rcases hform with rfl | ⟨len, sz, h, rfl⟩
  · refine SW.seqRun tok hO (by cbv <;> rfl) (by trivial) ?_
    exact SW.ret ⟨_, _, rfl, rfl, Eqv.agg (.cons (Eqv.refl _) (.cons (Eqv.refl _) (.cons (Eqv.refl _) (.cons (Eqv.refl _) (.cons hA .nil)))))⟩
  · refine SW.seqRun tok hO (by cbv <;> rfl) (by trivial) ?_
    exact SW.ret ⟨_, _, rfl, rfl, Eqv.agg (.cons (Eqv.refl _) (.cons (Eqv.refl _) (.cons (Eqv.refl _) (.cons (Eqv.refl _) (.cons hA .nil)))))⟩
end Go.Fz
