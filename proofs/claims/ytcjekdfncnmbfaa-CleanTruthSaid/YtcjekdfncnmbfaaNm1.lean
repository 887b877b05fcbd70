/- Own work of the verifier of watercress: FzRf2, FzRf3, FzTd1, FzRf4, FzRf5, FzRf6, FzRf7, FzRf8, FzRs1, FzRs2, FzRs3. -/
import Derived.Below
import Derived.CallsIn
import Derived.Carry
import Derived.ChangeKeysEq
import Derived.ChangeSame
import Derived.Deep.Slices
import Derived.DeepKeys4
import Derived.JoinedCond
import Derived.Laws.AppendOwn
import Derived.Laws.Cells
import Derived.Laws.CopyRow
import Derived.Laws.Cover3
import Derived.Laws.Entries
import Derived.Laws.NewFold
import Derived.Laws.Sem
import Derived.Laws.Small
import Derived.Laws.StructEq
import Derived.Laws.Tables
import Derived.Laws.World
import Derived.Lib.SmallJoins
import Derived.Maps.Keyed
import Derived.Maps.RangeRun
import Derived.OpenShut
import Derived.OrdersHeld
import Derived.OrdersIn
import Derived.ProofKit
import Derived.RangeFuncLeaves
import Derived.RangeFuncRecord
import Derived.Shelf.Abstract
import Derived.WalkKit
import Derived.WideKeyArgs
import Derived.Test.YtcjekdfncnmbfaaNm0
import Derived.Test.YtcjekdfncnmbfaaNa10
import Derived.Test.YtcjekdfncnmbfaaNa11
import Derived.Test.YtcjekdfncnmbfaaNa13
import Derived.Test.YtcjekdfncnmbfaaNa16
import Derived.Test.YtcjekdfncnmbfaaNa14
import Derived.Test.YtcjekdfncnmbfaaNa18
import Derived.Test.YtcjekdfncnmbfaaNa15
import Derived.Test.YtcjekdfncnmbfaaNa19
import Derived.Test.YtcjekdfncnmbfaaNa20
import Derived.Test.YtcjekdfncnmbfaaNa21
import Derived.Test.YtcjekdfncnmbfaaNa22
import Derived.Test.YtcjekdfncnmbfaaNa12
import Derived.Test.YtcjekdfncnmbfaaNa17
import Derived.Test.YtcjekdfncnmbfaaNa0
import Derived.Test.YtcjekdfncnmbfaaNa1
import Derived.Test.YtcjekdfncnmbfaaNa2
import Derived.Test.YtcjekdfncnmbfaaNa3
import Derived.Test.YtcjekdfncnmbfaaNa4
import Derived.Test.YtcjekdfncnmbfaaNa5
import Derived.Test.YtcjekdfncnmbfaaNa6
import Derived.Test.YtcjekdfncnmbfaaNa7
import Derived.Test.YtcjekdfncnmbfaaNa8
import Derived.Test.YtcjekdfncnmbfaaNa9
import Derived.Test.YtcjekdfncnmbfaaProg
import Derived.Test.YtcjekdfncnmbfaaRows
set_option linter.unusedVariables false
set_option linter.unusedSimpArgs false
set_option linter.unusedVariables false
namespace Go.Fz
open Go.Proofs
set_option maxRecDepth 100000
def YardD.endR (y : YardD) (f : Nat → Int) (i : Nat) : Bool := decide (0 ≤ f i) && decide (y.last < sub64 (add64 (f i) (y.lng i)) 1)
def YardD.cntR (y : YardD) (f : Nat → Int) (w : Int) : Nat → Nat
  | 0 => 0
  | i + 1 => if y.eR f i w = true then y.cntR f w i + 1 else y.cntR f w i
def YardD.adjR (y : YardD) (f : Nat → Int) (w : Int) (i : Nat) : Bool := y.eR f i w && (decide (0 < i) && y.eR f (i - 1) w)
def YardD.fitB (y : YardD) (f : Nat → Int) : Bool := decide ((∀ i, i < y.nb → y.endR f i = false) ∧ ∀ w : Nat, w < (y.last + 1).toNat → (∀ i, i < y.nb → y.adjR f w i = false) ∧ (y.cntR f w y.nb : Int) ≤ y.hands)
theorem fitB_iff {y : YardD} {f : Nat → Int} : y.fitB f = true ↔ (∀ i, i < y.nb → y.endR f i = false) ∧ ∀ w : Nat, (w : Int) ≤ y.last → (∀ i, i < y.nb → y.adjR f w i = false) ∧ (y.cntR f w y.nb : Int) ≤ y.hands := by
  unfold YardD.fitB
  rw [decide_eq_true_eq]
  exact ⟨fun h => ⟨h.1, fun w hw => h.2 w (by omega)⟩, fun h => ⟨h.1, fun w hw => h.2 w (by omega)⟩⟩
theorem fitB_no {y : YardD} {f : Nat → Int} (h : y.fitB f = true → False) : y.fitB f = false := by
  cases hq : y.fitB f with
  | false => rfl
  | true => exact absurd (h hq) id
theorem cntR_le (y : YardD) (f : Nat → Int) (w : Int) : ∀ n, y.cntR f w n ≤ n
  | 0 => Nat.le_refl _
  | n + 1 => by
    have := cntR_le y f w n
    unfold YardD.cntR
    split <;> omega
set_option maxHeartbeats 16000000 in
theorem fits_ok (y : YardD) (hl : y.last ≤ 9) (hn : y.nb < 1000) (ex : Bool) (f : Nat → Int) : Pure Try.prog 67 [yardV y, intsV y.nb ex f] (.sb (y.fitB f)) := by
  obtain ⟨O, hO⟩ : ∃ O : Ar, O = std := ⟨_, rfl⟩
  have hnat : ∀ i : Nat, O.nat (Int.ofNat i) = i := fun i => by subst hO; rfl
  have e49 := fun (i : Nat) (hi : i < y.nb) (w : Int) => isEmpty_ok y y.nb ex f (Int.ofNat i) w (Int.natCast_nonneg i) (Int.ofNat_lt.2 hi) (Int.ofNat_lt.2 hi)
  have e49b := fun (i : Nat) (hi : i < y.nb) (h0 : 0 < i) (w : Int) => isEmpty_ok y y.nb ex f (O.bin .sub .i64 (Int.ofNat i) 1) w (sub1_rng hO (Nat.lt_trans hi hn) h0 hi).1 (sub1_rng hO (Nat.lt_trans hi hn) h0 hi).2 (sub1_rng hO (Nat.lt_trans hi hn) h0 hi).2
  have htn : ∀ i : Nat, i < y.nb → 0 < i → (O.bin .sub .i64 (Int.ofNat i) 1).toNat = i - 1 := fun i hi h0 => by
    have := natsub1 hO (Nat.lt_trans hi hn) h0
    subst hO; exact this
  have hbad1 : ∀ i, i < y.nb → y.endR f i = true → y.fitB f = false := fun i hi h => fitB_no fun hq => by
    have := (fitB_iff.1 hq).1 i hi
    rw [h] at this; cases this
  have hbad2 : ∀ (w : Nat) (i : Nat), (w : Int) ≤ y.last → i < y.nb → y.eR f i w = true → 0 < i → y.eR f (i - 1) w = true → y.fitB f = false := fun w i hw hi h1 h2 h3 => fitB_no fun hq => by
    have := ((fitB_iff.1 hq).2 w hw).1 i hi
    unfold YardD.adjR at this
    rw [h1, h3, decide_eq_true h2] at this; cases this
  have hbad3 : ∀ (w : Nat), (w : Int) ≤ y.last → ¬ (y.cntR f w y.nb : Int) ≤ y.hands → y.fitB f = false := fun w hw h => fitB_no fun hq => h ((fitB_iff.1 hq).2 w hw).2
  have hgood : (∀ i, i < y.nb → y.endR f i = false) → (∀ w : Nat, (w : Int) ≤ y.last → (∀ i, i < y.nb → y.adjR f w i = false) ∧ (y.cntR f w y.nb : Int) ≤ y.hands) → y.fitB f = true := fun h1 h2 => fitB_iff.2 ⟨h1, h2⟩
  have hend : ∀ i : Nat, y.endR f i = (decide (0 ≤ f (O.nat (Int.ofNat i))) && O.cmp .gtr (O.bin .sub .i64 (O.bin .add .i64 (f (O.nat (Int.ofNat i))) (y.lng (O.nat (Int.ofNat i)))) 1) y.last) := fun i => by rw [hnat]; subst hO; rfl
  have hcl := fun w => cntR_le y f w
  have hcs : ∀ w i, y.cntR f w (i + 1) = if y.eR f i w = true then y.cntR f w i + 1 else y.cntR f w i := fun w i => rfl
  have hc0 : ∀ w, y.cntR f w 0 = 0 := fun w => rfl
  have hadj : ∀ w i, y.adjR f w i = (y.eR f i w && (decide (0 < i) && y.eR f (i - 1) w)) := fun w i => rfl
  generalize y.fitB f = Q at hbad1 hbad2 hbad3 hgood ⊢
  generalize y.cntR f = C at hcl hcs hc0 hbad3 hgood
  generalize y.adjR f = A at hadj hgood
  generalize y.eR f = E at e49 e49b hcs hadj hbad2
  refine pure_of_body tok 3 Try.func67 en67 rfl ⟨yardV_below y, intsV_below _ _ _, trivial⟩ Below.sb ?_
  refine SW.seqRun tok hO (by cbv <;> rfl) (by trivial) ?_
  refine SW.seq ?_
  refine SW.seqRun tok hO (by cbv <;> rfl) (by trivial) ?_
  refine (SW.block (SW.loopF (fun i : Nat => ⟨⟨71, getT [(1, intsV y.nb ex f), (2, .ptr 0 0), (5, iV i)]⟩, []⟩) (fun _ => ⟨[(0, .cells none false (yardC y))], 1⟩) (fun i => y.nb - i) (fun i => i ≤ y.nb ∧ ∀ j, j < i → y.endR f j = false) 0
    (fun _ => rfl) ⟨Nat.zero_le _, fun j hj => absurd hj (Nat.not_lt_zero _)⟩ (Weak.by rfl rfl (by simp) (Nat.le_refl _) (Nat.le_refl _) ⟨⟨rfl, .inl rfl⟩, ⟨rfl, .inl rfl⟩, ⟨rfl, .inl rfl⟩, trivial⟩ ⟨⟨rfl, by omega, .inl rfl⟩, trivial⟩) fun i hi => ?_))
  obtain ⟨hi, hall⟩ := hi
  refine SW.seq ?_
  refine SW.seqRun tok hO (by cbv <;> rfl) (by trivial) ?_
  refine SW.condS (by cbv <;> rfl) (fun h => SW.skip ?_) (fun h => SW.exit ?_)
  · have hlt : i < y.nb := by
      have : (i : Int) < (y.nb : Int) := by subst hO; simpa [std] using h
      omega
    have hin : (0 : Int) ≤ Int.ofNat i ∧ Int.ofNat i < Int.ofNat y.nb := ⟨Int.natCast_nonneg i, Int.ofNat_lt.2 hlt⟩
    have hei := hend i
    have hnext : y.endR f i = false → ∀ j, j < i + 1 → y.endR f j = false := fun h j hj => by
      by_cases e : j = i
      · rw [e]; exact h
      · exact hall j (by omega)
    refine SW.seq (SW.block ?_)
    refine SW.seqRunD tok mixed hO (by kernel_rfl) (by cbv <;> rfl) (by repeat (first | exact trivial | exact hin | refine ⟨?_, ?_⟩)) ?_
    refine AnyE.dec tok hO (by kernel_rfl) (by cbv <;> rfl) (by trivial) (fun h2 => ?_) (fun h2 => ?_)
    · have hp : 0 ≤ f (O.nat (Int.ofNat i)) := by subst hO; simpa [std] using h2
      rw [decide_eq_true hp, Bool.true_and] at hei
      refine AnyE.run tok hO (by kernel_rfl) (by cbv <;> rfl) (by repeat (first | exact trivial | exact hin | refine ⟨?_, ?_⟩)) ?_
      refine AnyE.dec tok hO (by kernel_rfl) (by cbv <;> rfl) (by trivial) (fun h3 => ?_) (fun h3 => ?_)
      · refine AnyE.run tok hO (by kernel_rfl) (by cbv <;> rfl) (by trivial) ?_
        refine SW.cond (t := true) (by cbv <;> rfl) ?_
        refine SW.seqRun tok hO (by cbv <;> rfl) (by trivial) ?_
        refine SW.ret ⟨_, _, rfl, rfl, Eqv.bool (Eq.symm ?_)⟩
        exact hbad1 i hlt (hei.trans h3)
      · refine AnyE.run tok hO (by kernel_rfl) (by cbv <;> rfl) (by trivial) ?_
        refine SW.cond (t := false) (by cbv <;> rfl) (SW.skip ?_)
        refine SW.run tok hO (by cbv <;> rfl) (by trivial) ?_
        exact ⟨i + 1, by omega, ⟨by omega, hnext (hei.trans h3)⟩, Weak.by rfl rfl (by simp) (Nat.le_refl _) (Nat.le_refl _) ⟨⟨rfl, .inl rfl⟩, ⟨rfl, .inl rfl⟩, ⟨inc_ok hO (by omega), .inl rfl⟩, trivial⟩ ⟨⟨rfl, by omega, .inl rfl⟩, trivial⟩⟩
    · have hp : ¬ 0 ≤ f (O.nat (Int.ofNat i)) := by subst hO; simpa [std] using h2
      rw [decide_eq_false hp, Bool.false_and] at hei
      refine AnyE.run tok hO (by kernel_rfl) (by cbv <;> rfl) (by trivial) ?_
      refine SW.cond (t := false) (by cbv <;> rfl) (SW.skip ?_)
      refine SW.run tok hO (by cbv <;> rfl) (by trivial) ?_
      exact ⟨i + 1, by omega, ⟨by omega, hnext hei⟩, Weak.by rfl rfl (by simp) (Nat.le_refl _) (Nat.le_refl _) ⟨⟨rfl, .inl rfl⟩, ⟨rfl, .inl rfl⟩, ⟨inc_ok hO (by omega), .inl rfl⟩, trivial⟩ ⟨⟨rfl, by omega, .inl rfl⟩, trivial⟩⟩
  have hie : i = y.nb := by
    have : (y.nb : Int) ≤ (i : Int) := by subst hO; simpa [std] using h
    omega
  rw [hie] at hall
  have hgood := hgood hall
  clear hbad1 hend hall
  refine SW.seq ?_
  refine SW.seqRun tok hO (by cbv <;> rfl) (by trivial) ?_
  refine (SW.block (SW.loopF (fun w : Nat => ⟨⟨71, getT [(1, intsV y.nb ex f), (2, .ptr 0 0), (6, iV w)]⟩, []⟩) (fun _ => ⟨[(0, .cells none false (yardC y))], 1⟩) (fun w => (y.last + 1 - w).toNat) (fun w => ∀ v : Nat, v < w → (v : Int) ≤ y.last → (∀ i, i < y.nb → A v i = false) ∧ (C v y.nb : Int) ≤ y.hands) 0
    (fun _ => rfl) (fun v hv => absurd hv (Nat.not_lt_zero _)) (Weak.by rfl rfl (by simp) (Nat.le_refl _) (Nat.le_refl _) ⟨⟨rfl, .inl rfl⟩, ⟨rfl, .inl rfl⟩, ⟨rfl, .inl rfl⟩, trivial⟩ ⟨⟨rfl, by omega, .inl rfl⟩, trivial⟩) fun w hw => ?_))
  refine SW.seq ?_
  refine SW.seqRun tok hO (by cbv <;> rfl) (by trivial) ?_
  refine SW.condS (by cbv <;> rfl) (fun h => SW.skip ?_) (fun h => SW.exit ?_)
  rotate_left
  · have hwl : ¬ (w : Int) ≤ y.last := by
      have : y.last < (w : Int) := by subst hO; simpa [std] using h
      omega
    refine SW.seqRun tok hO (by cbv <;> rfl) (by trivial) ?_
    refine SW.ret ⟨_, _, rfl, rfl, Eqv.bool (Eq.symm ?_)⟩
    exact hgood fun v hv => hw v (by omega) hv
  have hwl : (w : Int) ≤ y.last := by subst hO; simpa [std] using h
  refine SW.seq (SW.block ?_)
  refine SW.seqRun tok hO (by cbv <;> rfl) (by trivial) ?_
  refine SW.seq ?_
  refine SW.seqRun tok hO (by cbv <;> rfl) (by trivial) ?_
  refine (SW.block (SW.loopF (fun i : Nat => ⟨⟨71, getT [(1, intsV y.nb ex f), (2, .ptr 0 0), (6, iV w), (7, iV (Int.ofNat (C w i))), (8, iV i)]⟩, []⟩) (fun _ => ⟨[(0, .cells none false (yardC y))], 1⟩) (fun i => y.nb - i) (fun i => i ≤ y.nb ∧ ∀ j, j < i → A w j = false) 0
    (fun _ => rfl) ⟨Nat.zero_le _, fun j hj => absurd hj (Nat.not_lt_zero _)⟩ (Weak.by rfl rfl (by simp) (Nat.le_refl _) (Nat.le_refl _) ⟨⟨rfl, .inl rfl⟩, ⟨rfl, .inl rfl⟩, ⟨rfl, .inl rfl⟩, ⟨by rw [hc0]; rfl, .inl rfl⟩, ⟨rfl, .inl rfl⟩, trivial⟩ ⟨⟨rfl, by omega, .inl rfl⟩, trivial⟩) fun i hi => ?_))
  obtain ⟨hi, hall⟩ := hi
  refine SW.seq ?_
  refine SW.seqRun tok hO (by cbv <;> rfl) (by trivial) ?_
  refine SW.condS (by cbv <;> rfl) (fun h => SW.skip ?_) (fun h => SW.exit ?_)
  · have hlt : i < y.nb := by
      have : (i : Int) < (y.nb : Int) := by subst hO; simpa [std] using h
      omega
    have hcw := hcs w i
    have had := hadj w i
    have hci := hcl w i
    have hcb : C w i < 4611686018427387904 := Nat.lt_of_le_of_lt hci (by omega)
    have e49 := e49 i hlt w
    have e49b := e49b i hlt
    have htn := htn i hlt
    have hti : (Int.ofNat i).toNat = i := rfl
    rw [hti] at e49
    obtain ⟨B, hB⟩ : ∃ B, E i w = B := ⟨_, rfl⟩
    rw [hB] at e49 hcw had
    have hnext : A w i = false → ∀ j, j < i + 1 → A w j = false := fun h j hj => by
      by_cases e : j = i
      · rw [e]; exact h
      · exact hall j (by omega)
    refine SW.seq (SW.block ?_)
    refine SW.seq ?_
    refine SW.seqRun tok hO (by cbv <;> rfl) (by trivial) ?_
    refine OpsW.callP e49 (by cbv <;> rfl) ?_
    refine OpsW.run tok hO (by cbv <;> rfl) (by trivial) ?_
    refine SW.condS (by cbv <;> rfl) (fun h2 => ?_) (fun h2 => SW.skip ?_)
    · have hBf : B = false := by subst hO; simpa [std] using h2
      rw [hBf, if_neg (by decide)] at hcw
      rw [hBf, Bool.false_and] at had
      refine SW.exit ?_
      refine SW.run tok hO (by cbv <;> rfl) (by trivial) ?_
      exact ⟨i + 1, by omega, ⟨by omega, hnext had⟩, Weak.by rfl rfl (by simp) (Nat.le_refl _) (Nat.le_refl _) ⟨⟨rfl, .inl rfl⟩, ⟨rfl, .inl rfl⟩, ⟨rfl, .inl rfl⟩, ⟨by rw [hcw]; rfl, .inl rfl⟩, ⟨inc_ok hO (by omega), .inl rfl⟩, trivial⟩ ⟨⟨rfl, by omega, .inl rfl⟩, trivial⟩⟩
    · have hBt : B = true := by subst hO; simpa [std] using h2
      rw [hBt, if_pos rfl] at hcw
      rw [hBt, Bool.true_and] at had
      refine SW.seqRun tok hO (by cbv <;> rfl) (by trivial) ?_
      refine SW.seqRun tok hO (by cbv <;> rfl) (by trivial) ?_
      refine OpsW.splitG (by cbv <;> rfl) (fun h3 => ?_) (fun h3 => ?_)
      · have hi0 : 0 < i := gtr0 hO h3
        rw [decide_eq_true hi0, Bool.true_and] at had
        have e49b := e49b hi0 w
        rw [htn hi0] at e49b
        obtain ⟨B2, hB2⟩ : ∃ B, E (i - 1) w = B := ⟨_, rfl⟩
        rw [hB2] at e49b had
        refine OpsW.run tok hO (by cbv <;> rfl) (by trivial) ?_
        refine OpsW.callP e49b (by cbv <;> rfl) ?_
        refine OpsW.run tok hO (by cbv <;> rfl) (by trivial) ?_
        refine SW.condS (by cbv <;> rfl) (fun h4 => ?_) (fun h4 => SW.skip ?_)
        · have hB2t : B2 = true := h4
          refine SW.seqRun tok hO (by cbv <;> rfl) (by trivial) ?_
          refine SW.ret ⟨_, _, rfl, rfl, Eqv.bool (Eq.symm ?_)⟩
          exact hbad2 w i hwl hlt (hB.trans hBt) hi0 (hB2.trans hB2t)
        · have hB2f : B2 = false := h4
          rw [hB2f] at had
          refine SW.run tok hO (by cbv <;> rfl) (by trivial) ?_
          exact ⟨i + 1, by omega, ⟨by omega, hnext had⟩, Weak.by rfl rfl (by simp) (Nat.le_refl _) (Nat.le_refl _) ⟨⟨rfl, .inl rfl⟩, ⟨rfl, .inl rfl⟩, ⟨rfl, .inl rfl⟩, ⟨by rw [hcw]; exact inc_ok hO hcb, .inl rfl⟩, ⟨inc_ok hO (by omega), .inl rfl⟩, trivial⟩ ⟨⟨rfl, by omega, .inl rfl⟩, trivial⟩⟩
      · have hi0 : ¬ 0 < i := fun h0 => by
          have : ¬ (i : Int) > 0 := by subst hO; simpa [std] using h3
          omega
        rw [decide_eq_false hi0, Bool.false_and] at had
        refine OpsW.run tok hO (by cbv <;> rfl) (by trivial) ?_
        refine SW.cond (t := false) (by cbv <;> rfl) (SW.skip ?_)
        refine SW.run tok hO (by cbv <;> rfl) (by trivial) ?_
        exact ⟨i + 1, by omega, ⟨by omega, hnext had⟩, Weak.by rfl rfl (by simp) (Nat.le_refl _) (Nat.le_refl _) ⟨⟨rfl, .inl rfl⟩, ⟨rfl, .inl rfl⟩, ⟨rfl, .inl rfl⟩, ⟨by rw [hcw]; exact inc_ok hO hcb, .inl rfl⟩, ⟨inc_ok hO (by omega), .inl rfl⟩, trivial⟩ ⟨⟨rfl, by omega, .inl rfl⟩, trivial⟩⟩
  have hie : i = y.nb := by
    have : (y.nb : Int) ≤ (i : Int) := by subst hO; simpa [std] using h
    omega
  subst hie
  refine SW.seqRun tok hO (by cbv <;> rfl) (by trivial) ?_
  refine SW.condS (by cbv <;> rfl) (fun h2 => ?_) (fun h2 => SW.skip ?_)
  · have hm : ¬ (C w y.nb : Int) ≤ y.hands := by
      have : y.hands < (C w y.nb : Int) := by subst hO; simpa [std] using h2
      omega
    refine SW.seqRun tok hO (by cbv <;> rfl) (by trivial) ?_
    refine SW.ret ⟨_, _, rfl, rfl, Eqv.bool (Eq.symm ?_)⟩
    exact hbad3 w hwl hm
  · have hm : (C w y.nb : Int) ≤ y.hands := by subst hO; simpa [std] using h2
    refine SW.run tok hO (by cbv <;> rfl) (by trivial) ?_
    refine ⟨w + 1, by omega, fun v hv hvl => ?_, Weak.by rfl rfl (by simp) (Nat.le_refl _) (Nat.le_refl _) ⟨⟨rfl, .inl rfl⟩, ⟨rfl, .inl rfl⟩, ⟨inc_ok hO (by omega), .inl rfl⟩, trivial⟩ ⟨⟨rfl, by omega, .inl rfl⟩, trivial⟩⟩
    by_cases e : v = w
    · rw [e]; exact ⟨hall, hm⟩
    · exact hw v (by omega) hvl
end Go.Fz
set_option linter.unusedVariables false
namespace Go.Fz
open Go.Proofs
set_option maxRecDepth 100000
def YardD.nR (y : YardD) (b n : Int) : Nat → Int
  | 0 => n
  | i + 1 => if bitB b i = true then std.bin .quo .i64 (y.nR b n i) (size64 (y.blo i) (y.bhi i)) else y.nR b n i
def YardD.nF (y : YardD) (b n : Int) (i : Nat) : Int := if bitB b i = true then std.bin .add .i64 (y.blo i) (std.bin .rem .i64 (y.nR b n i) (size64 (y.blo i) (y.bhi i))) else -1
theorem zero_fin6 : ∀ (o : Fin 64) (i : Fin 6), std.cmp .eql (std.bin .rem .i64 (std.bin .shr .i64 (o.1 : Int) (std.conv .u64 (i.1 : Int))) 2) 0 = !bitB (o.1 : Int) i.1 := by decide +kernel
theorem bit_zero {b : Int} (b0 : 0 ≤ b) (b1 : b < 64) {i : Nat} (hi : i < 6) : std.cmp .eql (std.bin .rem .i64 (std.bin .shr .i64 b (std.conv .u64 (i : Int))) 2) 0 = !bitB b i := by
  have h := zero_fin6 ⟨b.toNat, by omega⟩ ⟨i, hi⟩
  have e : ((b.toNat : Nat) : Int) = b := by omega
  simp only [e] at h
  exact h
set_option maxHeartbeats 16000000 in
theorem nth_ok (y : YardD) (hfit : y.Fit) (b n : Int) (b0 : 0 ≤ b) (b1 : b < 64) : Pure Try.prog 46 [yardV y, iV b, iV n] (intsV y.nb false (y.nF b n)) := by
  obtain ⟨O, hO⟩ : ∃ O : Ar, O = std := ⟨_, rfl⟩
  have hnat : ∀ i : Nat, O.nat (Int.ofNat i) = i := fun i => by subst hO; rfl
  have hn := hfit.nb
  have hbz : ∀ i, i < 6 → O.cmp .eql (O.bin .rem .i64 (O.bin .shr .i64 b (O.conv .u64 (Int.ofNat i))) 2) 0 = !bitB b i := fun i hi => by subst hO; exact bit_zero b0 b1 hi
  have hRs : ∀ i, y.nR b n (i + 1) = if bitB b i = true then O.bin .quo .i64 (y.nR b n i) (O.bin .add .i64 (O.bin .sub .i64 (y.bhi i) (y.blo i)) 1) else y.nR b n i := fun i => by subst hO; rfl
  have hFv : ∀ i, y.nF b n i = if bitB b i = true then O.bin .add .i64 (y.blo i) (O.bin .rem .i64 (y.nR b n i) (O.bin .add .i64 (O.bin .sub .i64 (y.bhi i) (y.blo i)) 1)) else -1 := fun i => by subst hO; rfl
  have hsz : ∀ i, i < y.nb → O.bin .add .i64 (O.bin .sub .i64 (y.bhi i) (y.blo i)) 1 ≠ 0 := fun i hi => by
    have hr := hfit.beg i hi
    subst hO
    show size64 (y.blo i) (y.bhi i) ≠ 0
    rw [size_in hr]; omega
  have hR0 : y.nR b n 0 = n := rfl
  generalize y.nF b n = F at hFv ⊢
  generalize y.nR b n = R at hRs hFv hR0
  generalize bitB b = T at hbz hRs hFv
  refine pure_of_body tok 3 Try.func46 en46 rfl ⟨yardV_below y, Below.lit, Below.lit, trivial⟩ (intsV_below _ _ _) ?_
  refine SW.seqRun tok hO (by cbv <;> rfl) (by trivial) ?_
  refine SW.seqRun tok hO (by cbv <;> rfl) (by trivial) ?_
  refine SW.seq ?_
  refine SW.seqRun tok hO (by cbv <;> rfl) (by trivial) ?_
  refine (SW.block (SW.loopR (fun i : Nat => ⟨⟨55, getT [(1, iV b), (2, iV (R i)), (3, .ptr 0 0), (7, slG 1 1 i), (8, iV i)]⟩, []⟩) (fun i => ⟨[(0, .cells none false (yardC y))] ++ objG 1 1 (intC F) i, 2⟩) (fun i => y.nb - i) (fun i => i ≤ y.nb) 0 (Nat.zero_le _) (ren1 1 1) ?_ fun i hi => ?_))
  · rw [hR0]
    exact WeakR.up rfl rfl (by simp) (Nat.le_refl _) (.inl rfl) (by show 1 ≤ 2; omega) ⟨RenV.closed Below.lit, RenV.closed Below.lit, RenV.ptr (by omega), RenV.closed Below.lit, RenV.closed Below.lit, trivial⟩ ⟨⟨by omega, _, rfl, .cells (RenVs.closed (yardC_below y)), .inr rfl⟩, trivial⟩ (fun p hp => by cases hp)
  have hRi := hRs i
  have hFi := hFv i
  obtain ⟨r, hr⟩ : ∃ r, R i = r := ⟨_, rfl⟩
  rw [hr] at hRi hFi
  show SW _ _ _ _ ⟨⟨55, getT [(1, iV b), (2, iV (R i)), (3, .ptr 0 0), (7, slG 1 1 i), (8, iV i)]⟩, []⟩ _
  rw [hr]
  cases i with
  | zero =>
    refine SW.seq ?_
    refine SW.seqRun tok hO (by cbv <;> rfl) (by trivial) ?_
    refine SW.condS (by cbv <;> rfl) (fun h => SW.skip ?_) (fun h => ?_)
    · have hlt : 0 < y.nb := by subst hO; simpa [std] using h
      have h0 : (0 : Int) ≤ Int.ofNat (0) := Int.natCast_nonneg _
      have hin : (0 : Int) ≤ Int.ofNat (0) ∧ Int.ofNat (0) < Int.ofNat y.nb := ⟨h0, Int.ofNat_lt.2 hlt⟩
      have hc0 : 0 ≤ O.conv .u64 (Int.ofNat (0)) := conv0 hO (by omega)
      have hbz := hbz (0) (by omega)
      have hsz := hsz (0) hlt
      have hni : O.nat (Int.ofNat (0)) = 0 := hnat _
      rw [← hni] at hsz
      refine SW.seq (SW.block ?_)
      refine SW.seq ?_
      refine SW.seqRun tok hO (by cbv <;> rfl) (by first | exact ⟨hc0, (by decide : (2 : Int) ≠ 0)⟩ | exact ⟨(by decide : (2 : Int) ≠ 0), hc0⟩) ?_
      refine SW.condS (by cbv <;> rfl) (fun h1 => ?_) (fun h1 => SW.skip ?_)
      · have hT : T (0) = false := by
          have h2 : (!T (0)) = true := hbz.symm.trans h1
          simpa using h2
        rw [hT, if_neg (by decide)] at hRi hFi
        refine SW.seq (SW.runN tok hO 2 (by cbv <;> rfl) (by trivial) ?_)
        refine OpsW.appNil tok (by cbv <;> rfl) (by rfl) (by kernel_rfl) (by rfl) (by rfl) ?_
        refine OpsW.run tok hO (by cbv <;> rfl) (by trivial) ?_
        refine SW.exit ?_
        refine SW.run tok hO (by cbv <;> rfl) (by trivial) ?_
        refine ⟨1, by omega, by omega, ren1 1 3, ?_⟩
        rw [show R (1) = _ from hRi]
        refine WeakR.up rfl rfl (by simp) (Nat.le_refl _) (.inr (by omega)) (by show 1 ≤ 2; omega) ⟨RenV.closed Below.lit, RenV.closed Below.lit, RenV.ptr (by omega), RenV.sl (by omega), RenV.inc hO (by omega), trivial⟩ ⟨⟨by omega, _, rfl, .cells (RenVs.closed (yardC_below y)), .inr rfl⟩, trivial⟩ (fun p hp => ?_)
        obtain rfl := objG_mem hp
        exact ⟨by omega, _, rfl, .cells (RenVs.of_eq (congrArg (fun v => [iV v]) hFi.symm) (flatG_below (intC_below F) 1)), .inl rfl⟩
      · have hT : T (0) = true := by
          have h2 : (!T (0)) = false := hbz.symm.trans h1
          simpa using h2
        rw [hT, if_pos rfl] at hRi hFi
        have hRi : R (1) = O.bin .quo .i64 r (O.bin .add .i64 (O.bin .sub .i64 (y.bhi (O.nat (Int.ofNat (0)))) (y.blo (O.nat (Int.ofNat (0))))) 1) := by rw [hni]; exact hRi
        have hFi : F (0) = O.bin .add .i64 (y.blo (O.nat (Int.ofNat (0)))) (O.bin .rem .i64 r (O.bin .add .i64 (O.bin .sub .i64 (y.bhi (O.nat (Int.ofNat (0)))) (y.blo (O.nat (Int.ofNat (0))))) 1)) := by rw [hni]; exact hFi
        refine SW.seqRun tok hO (by cbv <;> rfl) (by repeat (first | exact trivial | exact hin | refine ⟨?_, ?_⟩)) ?_
        refine SW.seqRunD tok mixed hO (by kernel_rfl) (by cbv <;> rfl) (by repeat (first | exact trivial | exact hsz | refine ⟨?_, ?_⟩)) ?_
        refine AnyE.effK tok hO (by cbv <;> rfl) (by cbv <;> rfl) (by trivial) ?_ ?_
        · exact ⟨by cbv <;> rfl, trivial⟩
        refine AnyE.appNil tok (by cbv <;> rfl) (by cbv <;> rfl) (by rfl) (by kernel_rfl) (by rfl) (by rfl) ?_
        refine AnyE.run tok hO (by rfl) (by cbv <;> rfl) (by trivial) ?_
        refine SW.run tok hO (by cbv <;> rfl) (by repeat (first | exact trivial | exact hsz | refine ⟨?_, ?_⟩)) ?_
        refine SW.run tok hO (by cbv <;> rfl) (by trivial) ?_
        refine ⟨1, by omega, by omega, ren1 1 4, ?_⟩
        rw [show R (1) = _ from hRi]
        refine WeakR.up rfl rfl (by simp) (Nat.le_refl _) (.inr (by omega)) (by show 1 ≤ 2; omega) ⟨RenV.closed Below.lit, RenV.closed Below.lit, RenV.ptr (by omega), RenV.sl (by omega), RenV.inc hO (by omega), trivial⟩ ⟨⟨by omega, _, rfl, .cells (RenVs.closed (yardC_below y)), .inr rfl⟩, trivial⟩ (fun p hp => ?_)
        obtain rfl := objG_mem hp
        exact ⟨by omega, _, rfl, .cells (RenVs.of_eq (congrArg (fun v => [iV v]) hFi.symm) (flatG_below (intC_below F) 1)), .inl rfl⟩
    · have hz : y.nb = 0 := by
        have : y.nb ≤ 0 := by subst hO; simpa [std] using h
        omega
      refine SW.exit ?_
      refine SW.seqRun tok hO (by cbv <;> rfl) (by trivial) ?_
      refine SW.ret ⟨_, _, rfl, rfl, ?_⟩
      rw [hz]; exact Eqv.nil
  | succ i =>
    obtain ⟨G, hG⟩ : ∃ G, G = flatG 1 (intC F) (i + 1) := ⟨_, rfl⟩
    have hGo : objG 1 1 (intC F) (i + 1) = [(1, .cells none false G)] := by rw [hG]; rfl
    show SW _ _ _ _ _ ⟨[(0, .cells none false (yardC y))] ++ objG 1 1 (intC F) (i + 1), 2⟩
    rw [hGo]
    refine SW.seq ?_
    refine SW.seqRun tok hO (by cbv <;> rfl) (by trivial) ?_
    refine SW.condS (by cbv <;> rfl) (fun h => SW.skip ?_) (fun h => ?_)
    · have hlt : i + 1 < y.nb := by
        have : ((i + 1 : Nat) : Int) < (y.nb : Int) := by subst hO; simpa [std] using h
        omega
      have h0 : (0 : Int) ≤ Int.ofNat (i + 1) := Int.natCast_nonneg _
      have hin : (0 : Int) ≤ Int.ofNat (i + 1) ∧ Int.ofNat (i + 1) < Int.ofNat y.nb := ⟨h0, Int.ofNat_lt.2 hlt⟩
      have hc0 : 0 ≤ O.conv .u64 (Int.ofNat (i + 1)) := conv0 hO (by omega)
      have hbz := hbz (i + 1) (by omega)
      have hsz := hsz (i + 1) hlt
      have hni : O.nat (Int.ofNat (i + 1)) = i + 1 := hnat _
      rw [← hni] at hsz
      refine SW.seq (SW.block ?_)
      refine SW.seq ?_
      refine SW.seqRun tok hO (by cbv <;> rfl) (by first | exact ⟨hc0, (by decide : (2 : Int) ≠ 0)⟩ | exact ⟨(by decide : (2 : Int) ≠ 0), hc0⟩) ?_
      refine SW.condS (by cbv <;> rfl) (fun h1 => ?_) (fun h1 => SW.skip ?_)
      · have hT : T (i + 1) = false := by
          have h2 : (!T (i + 1)) = true := hbz.symm.trans h1
          simpa using h2
        rw [hT, if_neg (by decide)] at hRi hFi
        refine SW.seq (SW.runN tok hO 2 (by cbv <;> rfl) (by trivial) ?_)
        refine OpsW.appOne (g := intC F) tok (by cbv <;> rfl) (by rfl) (by rfl) hG (by kernel_rfl) (by rfl) (by rfl) (by omega) fun G' hG' => ?_
        refine OpsW.run tok hO (by cbv <;> rfl) (by trivial) ?_
        refine SW.exit ?_
        refine SW.run tok hO (by cbv <;> rfl) (by trivial) ?_
        refine ⟨i + 1 + 1, by omega, by omega, ren1 1 3, ?_⟩
        rw [show R (i + 1 + 1) = _ from hRi]
        refine WeakR.up rfl rfl (by simp) (Nat.le_refl _) (.inr (by omega)) (by show 1 ≤ 2; omega) ⟨RenV.closed Below.lit, RenV.closed Below.lit, RenV.ptr (by omega), RenV.sl (by omega), RenV.inc hO (by omega), trivial⟩ ⟨⟨by omega, _, rfl, .cells (RenVs.closed (yardC_below y)), .inr rfl⟩, trivial⟩ (fun p hp => ?_)
        obtain rfl := objG_mem hp
        exact ⟨by omega, _, rfl, .cells (RenVs.of_eq (hG'.trans (flatG_snoc F (i + 1) _ hFi.symm)) (flatG_below (intC_below F) (i + 1 + 1))), .inl rfl⟩
      · have hT : T (i + 1) = true := by
          have h2 : (!T (i + 1)) = false := hbz.symm.trans h1
          simpa using h2
        rw [hT, if_pos rfl] at hRi hFi
        have hRi : R (i + 1 + 1) = O.bin .quo .i64 r (O.bin .add .i64 (O.bin .sub .i64 (y.bhi (O.nat (Int.ofNat (i + 1)))) (y.blo (O.nat (Int.ofNat (i + 1))))) 1) := by rw [hni]; exact hRi
        have hFi : F (i + 1) = O.bin .add .i64 (y.blo (O.nat (Int.ofNat (i + 1)))) (O.bin .rem .i64 r (O.bin .add .i64 (O.bin .sub .i64 (y.bhi (O.nat (Int.ofNat (i + 1)))) (y.blo (O.nat (Int.ofNat (i + 1))))) 1)) := by rw [hni]; exact hFi
        refine SW.seqRun tok hO (by cbv <;> rfl) (by repeat (first | exact trivial | exact hin | refine ⟨?_, ?_⟩)) ?_
        refine SW.seqRunD tok mixed hO (by kernel_rfl) (by cbv <;> rfl) (by repeat (first | exact trivial | exact hsz | refine ⟨?_, ?_⟩)) ?_
        refine AnyE.effK tok hO (by cbv <;> rfl) (by cbv <;> rfl) (by trivial) ?_ ?_
        · exact ⟨by cbv <;> rfl, trivial⟩
        refine AnyE.appOne (g := intC F) tok (by cbv <;> rfl) (by cbv <;> rfl) (by rfl) (by rfl) hG (by kernel_rfl) (by rfl) (by rfl) (by omega) fun G' hG' => ?_
        refine AnyE.run tok hO (by rfl) (by cbv <;> rfl) (by trivial) ?_
        refine SW.run tok hO (by cbv <;> rfl) (by repeat (first | exact trivial | exact hsz | refine ⟨?_, ?_⟩)) ?_
        refine SW.run tok hO (by cbv <;> rfl) (by trivial) ?_
        refine ⟨i + 1 + 1, by omega, by omega, ren1 1 4, ?_⟩
        rw [show R (i + 1 + 1) = _ from hRi]
        refine WeakR.up rfl rfl (by simp) (Nat.le_refl _) (.inr (by omega)) (by show 1 ≤ 2; omega) ⟨RenV.closed Below.lit, RenV.closed Below.lit, RenV.ptr (by omega), RenV.sl (by omega), RenV.inc hO (by omega), trivial⟩ ⟨⟨by omega, _, rfl, .cells (RenVs.closed (yardC_below y)), .inr rfl⟩, trivial⟩ (fun p hp => ?_)
        obtain rfl := objG_mem hp
        exact ⟨by omega, _, rfl, .cells (RenVs.of_eq (hG'.trans (flatG_snoc F (i + 1) _ hFi.symm)) (flatG_below (intC_below F) (i + 1 + 1))), .inl rfl⟩
    · have hz : y.nb = i + 1 := by
        have : (y.nb : Int) ≤ ((i + 1 : Nat) : Int) := by subst hO; simpa [std] using h
        omega
      have hlG : (i + 1) * 1 ≤ G.length := by rw [hG, flatG_length]; omega
      refine SW.exit ?_
      refine SW.seqRun tok hO (by cbv <;> rfl) (by trivial) ?_
      refine SW.ret ⟨_, _, rfl, rfl, ?_⟩
      show Eqv (frz _ _ 3 (.sl 1 0 (i + 1) 1 false)) (.isl y.nb 1 false (intC F))
      rw [hz, frz_slE (fm := none) (G := G) rfl rfl hlG, hG]
      exact Eqv.isl rfl fun i' k hi' hk => Eqv.of (frz_flat hi' hk rfl)
end Go.Fz
set_option linter.unusedVariables false
namespace Go.Fz
open Go.Proofs
set_option maxRecDepth 100000
def prodZ (s : Nat → Int) : Nat → Int
  | 0 => 1
  | i + 1 => prodZ s i * s i
theorem prN_prod {lo hi : Nat → Int} {n : Nat} (hn : n ≤ 6) (hr : ∀ i, i < n → 0 ≤ lo i ∧ lo i ≤ hi i ∧ hi i ≤ 9) : ∀ i, i ≤ n → prN lo hi i = prodZ (fun i => hi i - lo i + 1) i ∧ 1 ≤ prN lo hi i ∧ prN lo hi i ≤ 10 ^ i
  | 0, _ => ⟨rfl, Int.le_refl _, Int.le_refl _⟩
  | i + 1, h => by
    obtain ⟨a1, a2, a3⟩ := prN_prod hn hr i (by omega)
    have r := prN_le hn hr hr (fun i hi => Int.le_refl _) (i + 1) h
    have hp : (10 : Int) ^ i ≤ 1000000 ∧ 1 ≤ (10 : Int) ^ i := ten_pow ⟨i, by omega⟩
    have r1 := hr i (by omega)
    refine ⟨?_, r.1, r.2.2⟩
    show mul64 (prN lo hi i) (size64 (lo i) (hi i)) = prodZ (fun i => hi i - lo i + 1) i * (hi i - lo i + 1)
    rw [← a1, size_in r1]
    have b1 : prN lo hi i * (hi i - lo i + 1) ≤ 10 ^ i * 10 := Int.mul_le_mul a3 (by omega) (by omega) (by omega)
    have b2 : 1 * 1 ≤ prN lo hi i * (hi i - lo i + 1) := Int.mul_le_mul a2 (by omega) (by omega) (by omega)
    have b4 : (10 : Int) ^ i * 10 ≤ 10000000 := by omega
    exact mul64_in _ _ (by omega) (by omega)
theorem check_zero {y : YardD} : y.check = 0 ↔ y.long = false ∧ y.validB = true ∧ prN y.blo y.bhi y.nb ≤ 2000 := by
  unfold YardD.check
  constructor
  · intro h
    split at h
    · omega
    · rename_i a1
      split at h
      · rename_i a2
        split at h
        · omega
        · exact ⟨by simpa using a1, a2, by omega⟩
      · omega
  · rintro ⟨h1, h2, h3⟩
    rw [if_neg (by rw [h1]; simp), if_pos h2, if_neg (by omega)]
end Go.Fz
set_option linter.unusedVariables false
namespace Go.Fz
open Go.Proofs
set_option maxRecDepth 100000
section
variable (s : Nat → Int) (T : Nat → Bool)
def pS : Nat → Int
  | 0 => 1
  | i + 1 => if T i = true then pS i * s i else pS i
def qS (n : Int) : Nat → Int
  | 0 => n
  | i + 1 => if T i = true then qS n i / s i else qS n i
end
theorem pS_pos {s : Nat → Int} {T : Nat → Bool} {k : Nat} (hs : ∀ i, i < k → 1 ≤ s i) : ∀ j, j ≤ k → 1 ≤ pS s T j ∧ pS s T j ≤ prodZ s j
  | 0, _ => ⟨Int.le_refl _, Int.le_refl _⟩
  | j + 1, h => by
    obtain ⟨h1, h2⟩ := pS_pos (T := T) hs j (by omega)
    have h3 := hs j (by omega)
    have h4 : pS s T j * s j ≤ prodZ s j * s j := Int.mul_le_mul_of_nonneg_right h2 (by omega)
    have h5 : pS s T j * 1 ≤ pS s T j * s j := Int.mul_le_mul_of_nonneg_left h3 (by omega)
    show 1 ≤ (if T j = true then _ else _) ∧ (if T j = true then _ else _) ≤ prodZ s j * s j
    split <;> constructor <;> omega
theorem qS_rng {s : Nat → Int} {T : Nat → Bool} {k : Nat} (hs : ∀ i, i < k → 1 ≤ s i) {n : Int} (n0 : 0 ≤ n) : ∀ j, j ≤ k → 0 ≤ qS s T n j ∧ qS s T n j ≤ n
  | 0, _ => ⟨n0, Int.le_refl _⟩
  | j + 1, h => by
    obtain ⟨h1, h2⟩ := qS_rng (T := T) hs n0 j (by omega)
    have h3 := hs j (by omega)
    show 0 ≤ (if T j = true then qS s T n j / s j else qS s T n j) ∧ (if T j = true then qS s T n j / s j else qS s T n j) ≤ n
    split
    · have h4 : 0 ≤ qS s T n j / s j := Int.ediv_nonneg h1 (by omega)
      have h5 : qS s T n j / s j ≤ qS s T n j := Int.ediv_le_self _ h1
      omega
    · exact ⟨h1, h2⟩
def YardD.szB (y : YardD) (i : Nat) : Int := y.bhi i - y.blo i + 1
theorem szB_pos {y : YardD} (hf : y.Fit) : ∀ i, i < y.nb → 1 ≤ y.szB i := fun i hi => by
  have := hf.beg i hi
  unfold YardD.szB; omega
theorem many_small {y : YardD} (hc : y.check = 0) (b : Int) : mnB y.blo y.bhi b y.nb = pS y.szB (bitB b) y.nb ∧ pS y.szB (bitB b) y.nb ≤ 2000 := by
  have hf := (y.fit_of_check hc).1
  have h3 := (check_zero.1 hc).2.2
  have hp := prN_prod hf.nb hf.beg
  have hz : prodZ y.szB y.nb ≤ 2000 := by rw [(hp y.nb (Nat.le_refl _)).1] at h3; exact h3
  have hmono : ∀ i j, i + j ≤ y.nb → prodZ y.szB i ≤ prodZ y.szB (i + j) := fun i j => by
    induction j with
    | zero => intro _; exact Int.le_refl _
    | succ j ih =>
      intro h
      have h1 := ih (by omega)
      have h2 := szB_pos hf (i + j) (by omega)
      have h4 := (hp (i + j) (by omega)).2.1
      rw [(hp (i + j) (by omega)).1] at h4
      have h4 : 1 ≤ prodZ y.szB (i + j) := h4
      have h5 : prodZ y.szB (i + j) * 1 ≤ prodZ y.szB (i + j) * y.szB (i + j) := Int.mul_le_mul_of_nonneg_left h2 (by omega)
      show prodZ y.szB i ≤ prodZ y.szB (i + j) * y.szB (i + j)
      omega
  have hle : ∀ i, i ≤ y.nb → pS y.szB (bitB b) i ≤ 2000 := fun i hi => by
    have h1 := (pS_pos (T := bitB b) (szB_pos hf) i hi).2
    have h2 := hmono i (y.nb - i) (by omega)
    rw [show i + (y.nb - i) = y.nb by omega] at h2
    omega
  refine ⟨?_, hle _ (Nat.le_refl _)⟩
  have : ∀ i, i ≤ y.nb → mnB y.blo y.bhi b i = pS y.szB (bitB b) i := fun i => by
    induction i with
    | zero => intro _; rfl
    | succ i ih =>
      intro h
      have h1 := ih (by omega)
      have h2 := hle (i + 1) h
      have h4 := (pS_pos (T := bitB b) (szB_pos hf) i (by omega)).1
      have h5 := hle i (by omega)
      show (if bitB b i = true then std.mn 4000 (mul64 (mnB y.blo y.bhi b i) (size64 (y.blo i) (y.bhi i))) else mnB y.blo y.bhi b i) = (if bitB b i = true then pS y.szB (bitB b) i * y.szB i else pS y.szB (bitB b) i)
      rw [h1]
      split
      · rename_i hb
        have h2 : (if bitB b i = true then pS y.szB (bitB b) i * y.szB i else pS y.szB (bitB b) i) ≤ 2000 := h2
        rw [if_pos hb] at h2
        have hr := hf.beg i (by omega)
        have h6 : 0 ≤ pS y.szB (bitB b) i * y.szB i := Int.mul_nonneg (by omega) (by have := szB_pos hf i (by omega); omega)
        rw [size_in hr, show y.bhi i - y.blo i + 1 = y.szB i from rfl, mul64_in _ _ (by omega) (by omega), mn_if, if_pos (by omega)]
      · rfl
  exact this _ (Nat.le_refl _)
theorem nR_q {y : YardD} (hf : y.Fit) {b n : Int} (n0 : 0 ≤ n) (n1 : n ≤ 4000) : ∀ i, i ≤ y.nb → y.nR b n i = qS y.szB (bitB b) n i
  | 0, _ => rfl
  | i + 1, h => by
    have h1 := nR_q hf n0 n1 (b := b) i (by omega)
    have h2 := qS_rng (T := bitB b) (szB_pos hf) n0 i (by omega)
    have hr := hf.beg i (by omega)
    have hs := szB_pos hf i (by omega)
    show (if bitB b i = true then std.bin .quo .i64 (y.nR b n i) (size64 (y.blo i) (y.bhi i)) else y.nR b n i) = (if bitB b i = true then qS y.szB (bitB b) n i / y.szB i else qS y.szB (bitB b) n i)
    rw [h1]
    split
    · show quo64 _ _ = _
      rw [size_in hr, show y.bhi i - y.blo i + 1 = y.szB i from rfl, quo64_nn h2.1 (by omega) hs, Int.tdiv_eq_ediv_of_nonneg h2.1]
    · rfl
theorem nF_q {y : YardD} (hf : y.Fit) {b n : Int} (n0 : 0 ≤ n) (n1 : n ≤ 4000) {i : Nat} (hi : i < y.nb) : y.nF b n i = if bitB b i = true then y.blo i + qS y.szB (bitB b) n i % y.szB i else -1 := by
  have h2 := qS_rng (T := bitB b) (szB_pos hf) n0 i (by omega)
  have hr := hf.beg i hi
  have hs := szB_pos hf i hi
  unfold YardD.nF
  rw [nR_q hf n0 n1 i (by omega)]
  split
  · show add64 (y.blo i) ((qS y.szB (bitB b) n i).tmod (size64 (y.blo i) (y.bhi i))) = _
    have h3 := Int.emod_nonneg (qS y.szB (bitB b) n i) (show y.szB i ≠ 0 by omega)
    have h4 := Int.emod_lt_of_pos (qS y.szB (bitB b) n i) (show 0 < y.szB i by omega)
    have h5 : y.szB i ≤ 10 := by unfold YardD.szB; omega
    rw [size_in hr, show y.bhi i - y.blo i + 1 = y.szB i from rfl, Int.tmod_eq_emod_of_nonneg h2.1, add64_in _ _ (by omega) (by omega)]
  · rfl
theorem nF_rng {y : YardD} (hf : y.Fit) {b n : Int} (n0 : 0 ≤ n) (n1 : n ≤ 4000) {i : Nat} (hi : i < y.nb) (hb : bitB b i = true) : y.blo i ≤ y.nF b n i ∧ y.nF b n i ≤ y.bhi i := by
  have hs := szB_pos hf i hi
  rw [nF_q hf n0 n1 hi, if_pos hb]
  have h3 := Int.emod_nonneg (qS y.szB (bitB b) n i) (show y.szB i ≠ 0 by omega)
  have h4 := Int.emod_lt_of_pos (qS y.szB (bitB b) n i) (show 0 < y.szB i by omega)
  have h5 : y.szB i = y.bhi i - y.blo i + 1 := rfl
  omega
end Go.Fz
set_option linter.unusedVariables false
namespace Go.Fz
open Go.Proofs
set_option maxRecDepth 100000
theorem selL_fin6 : ∀ (nb : Fin 7) (o : Fin 64), o.1 < 2 ^ nb.1 → selL (o.1 : Int) nb.1 = selL (o.1 : Int) 6 := by decide +kernel
theorem selL_nb {nb : Nat} (hn : nb ≤ 6) {b : Int} (b0 : 0 ≤ b) (b1 : b < 2 ^ nb) : selL b nb = selL b 6 := by
  have h6 := pow_le6 hn
  have e : ((b.toNat : Nat) : Int) = b := by omega
  have h := selL_fin6 ⟨nb, by omega⟩ ⟨b.toNat, by omega⟩ (by
    have : ((b.toNat : Nat) : Int) < 2 ^ nb := by rw [e]; exact b1
    exact_mod_cast this)
  simp only [e] at h
  exact h
theorem selL_nbmem {o : Int} {n j : Nat} : j ∈ selL o n ↔ j < n ∧ bitB o j = true := selL_mem o j n
structure YardD.ofL (y : YardD) (b : Int) (f : Nat → Int) : Prop where
  inn : ∀ i, i < y.nb → bitB b i = true → y.blo i ≤ f i ∧ f i ≤ y.bhi i
  out : ∀ i, i < y.nb → bitB b i = false → f i = -1
theorem len64 {y : YardD} (hf : y.Fit) {i : Nat} (hi : i < y.nb) {v : Int} (v0 : 0 ≤ v) (v9 : v ≤ 9) : sub64 (add64 v (y.lng i)) 1 = v + y.lng i - 1 := by
  have := hf.lng i hi
  rw [add64_in _ _ (by omega) (by omega), sub64_in _ _ (by omega) (by omega)]
theorem eR_mt {y : YardD} (hf : y.Fit) {b : Int} {f : Nat → Int} (h : y.ofL b f) {i : Nat} (hi : i < y.nb) (w : Int) : y.eR f i w = (bitB b i && y.mt f i w) := by
  unfold YardD.eR
  cases hb : bitB b i with
  | true =>
    have h1 := h.inn i hi hb
    have h2 := hf.beg i hi
    rw [decide_eq_true (by omega : 0 ≤ f i), len64 hf hi (by omega) (by omega)]
    rfl
  | false =>
    rw [h.out i hi hb]
    rfl
theorem cnt_busy {y : YardD} (hf : y.Fit) {b : Int} {f : Nat → Int} (h : y.ofL b f) (w : Int) : ∀ n, n ≤ y.nb → y.cntR f w n = y.busyP (selL b n) f w
  | 0, _ => rfl
  | n + 1, hn => by
    have ih := cnt_busy hf h w n (by omega)
    show (if y.eR f n w = true then y.cntR f w n + 1 else y.cntR f w n) = y.busyP (if bitB b n then selL b n ++ [n] else selL b n) f w
    rw [eR_mt hf h (by omega), ih]
    cases hb : bitB b n with
    | false => rfl
    | true =>
      rw [Bool.true_and, if_pos rfl, busy_append]
      unfold YardD.busyP
      cases hm : y.mt f n w with
      | true => rw [if_pos rfl]; simp [hm]
      | false => rw [if_neg (by decide)]; simp [hm]
theorem fit_sch {y : YardD} (hf : y.Fit) (hh : 0 ≤ y.hands) {b : Int} {f : Nat → Int} (h : y.ofL b f) : y.fitB f = true ↔ y.Sch (selL b y.nb) f := by
  rw [fitB_iff]
  constructor
  · rintro ⟨h1, h2⟩
    have hfin : ∀ c ∈ selL b y.nb, f c + y.lng c - 1 ≤ y.last := fun c hc => by
      obtain ⟨hc1, hc2⟩ := selL_nbmem.1 hc
      have h3 := h1 c hc1
      have h4 := h.inn c hc1 hc2
      have h5 := hf.beg c hc1
      unfold YardD.endR at h3
      rw [decide_eq_true (by omega : 0 ≤ f c), len64 hf hc1 (by omega) (by omega), Bool.true_and, decide_eq_false_iff_not] at h3
      omega
    have hw : ∀ c ∈ selL b y.nb, ∀ w, y.mt f c w = true → ∃ v : Nat, w = v ∧ (v : Int) ≤ y.last := fun c hc w hm => by
      obtain ⟨hc1, hc2⟩ := selL_nbmem.1 hc
      have h4 := h.inn c hc1 hc2
      have h5 := hf.beg c hc1
      have h6 := hfin c hc
      unfold YardD.mt at hm
      rw [Bool.and_eq_true, decide_eq_true_eq, decide_eq_true_eq] at hm
      exact ⟨w.toNat, by omega, by omega⟩
    refine ⟨fun c hc => ?_, hfin, fun w hw2 => ?_, fun c hc h0 hc1 w hm hm2 => ?_⟩
    · obtain ⟨hc1, hc2⟩ := selL_nbmem.1 hc
      exact h.inn c hc1 hc2
    · obtain ⟨c, hc, hm⟩ := hw2
      obtain ⟨v, rfl, hv⟩ := hw c hc w hm
      have := (h2 v hv).2
      rw [cnt_busy hf h _ _ (Nat.le_refl _)] at this
      exact this
    · obtain ⟨v, rfl, hv⟩ := hw c hc w hm
      obtain ⟨hc2, hc3⟩ := selL_nbmem.1 hc
      obtain ⟨hc4, hc5⟩ := selL_nbmem.1 hc1
      have := (h2 v hv).1 c hc2
      unfold YardD.adjR at this
      rw [eR_mt hf h hc2, eR_mt hf h hc4, hc3, hc5, hm, hm2, decide_eq_true h0] at this
      cases this
  · intro hs
    refine ⟨fun i hi => ?_, fun w hw => ⟨fun i hi => ?_, ?_⟩⟩
    · unfold YardD.endR
      cases hb : bitB b i with
      | true =>
        have h4 := h.inn i hi hb
        have h5 := hf.beg i hi
        have h6 := hs.fin i (selL_nbmem.2 ⟨hi, hb⟩)
        rw [len64 hf hi (by omega) (by omega), decide_eq_false (by omega : ¬ y.last < f i + y.lng i - 1), Bool.and_false]
      | false => rw [h.out i hi hb]; rfl
    · unfold YardD.adjR
      rw [eR_mt hf h hi, eR_mt hf h (by omega)]
      cases hb : bitB b i with
      | false => rfl
      | true =>
        cases hm : y.mt f i w with
        | false => rfl
        | true =>
          by_cases h0 : 0 < i
          · rw [decide_eq_true h0]
            cases hb1 : bitB b (i - 1) with
            | false => rfl
            | true =>
              have := hs.apt i (selL_nbmem.2 ⟨hi, hb⟩) h0 (selL_nbmem.2 ⟨by omega, hb1⟩) w hm
              cases hm2 : y.mt f (i - 1) w with
              | false => rfl
              | true => exact absurd hm2 this
          · rw [decide_eq_false h0]; rfl
    · rw [cnt_busy hf h _ _ (Nat.le_refl _)]
      by_cases hex : ∃ c ∈ selL b y.nb, y.mt f c w = true
      · exact hs.few w hex
      · have hz : y.busyP (selL b y.nb) f w = 0 := by
          unfold YardD.busyP
          rw [List.length_eq_zero_iff, List.filter_eq_nil_iff]
          intro c hc hm
          exact hex ⟨c, hc, hm⟩
        rw [hz]
        exact hh
theorem sch_congr {y : YardD} {L : List Nat} {f g : Nat → Int} (h : ∀ i ∈ L, f i = g i) (hs : y.Sch L f) : y.Sch L g := by
  refine ⟨fun c hc => ?_, fun c hc => ?_, fun w hw => ?_, fun c hc h0 hc1 w hm hm2 => ?_⟩
  · rw [← h c hc]; exact hs.rng c hc
  · rw [← h c hc]; exact hs.fin c hc
  · obtain ⟨c, hc, hm⟩ := hw
    rw [← busy_congr y h]
    exact hs.few w ⟨c, hc, by rw [mt_congr y (h c hc)]; exact hm⟩
  · rw [← mt_congr y (h c hc)] at hm
    rw [← mt_congr y (h _ hc1)] at hm2
    exact hs.apt c hc h0 hc1 w hm hm2
end Go.Fz
set_option linter.unusedVariables false
namespace Go.Fz
open Go.Proofs
set_option maxRecDepth 100000
theorem all6_fin : ∀ n : Fin 7, selL (allI n.1) 6 = List.range n.1 ∧ 0 ≤ allI n.1 ∧ allI n.1 < 2 ^ n.1 ∧ allI n.1 = 2 ^ n.1 - 1 := by decide +kernel
end Go.Fz
set_option linter.unusedVariables false
namespace Go.Fz
open Go.Proofs
set_option maxRecDepth 100000
theorem ris_pair6 : ∀ n : Fin 7, (risL n.1).Pairwise (fun x z => shL x z = true) := by decide +kernel
theorem ris_tri {n : Nat} (hn : n ≤ 6) {a b c : List Nat} (ha : a ∈ risL n) (hb : b ∈ risL n) (hc : c ∈ risL n) (h1 : shL a b = true) (h2 : shL b c = true) : shL a c = true := by
  obtain ⟨pre, post, hE⟩ := List.append_of_mem hc
  have hb2 := ris_before6 hn hE hb h2
  obtain ⟨p1, p2, hE2⟩ := List.append_of_mem hb2
  have hE3 : risL n = p1 ++ b :: (p2 ++ c :: post) := by rw [hE, hE2]; simp
  have ha2 := ris_before6 hn hE3 ha h1
  have hp := ris_pair6 ⟨n, by omega⟩
  simp only at hp
  rw [hE3] at hp
  exact (List.pairwise_append.1 hp).2.2 a ha2 c (by simp)
theorem ris_len6 {n : Nat} (hn : n ≤ 6) {l : List Nat} (hl : l ∈ risL n) : l.length ≤ 6 := (msk_fin6 ⟨n, by omega⟩ l hl).2.2
end Go.Fz
set_option linter.unusedVariables false
namespace Go.Fz
open Go.Proofs
set_option maxRecDepth 100000
end Go.Fz
set_option linter.unusedVariables false
set_option linter.unusedSimpArgs false
namespace Go.Fz
open Go.Proofs
set_option maxRecDepth 100000
def YardD.rm (y : YardD) (f : Nat → Int) : Nat → Int
  | 0 => 0
  | i + 1 => if y.rgt f i = true then std.bin .or .i64 (y.rm f i) (std.bin .shl .i64 1 (std.conv .u64 (Int.ofNat i))) else y.rm f i
set_option maxHeartbeats 8000000 in
theorem right_ok (y : YardD) (n : Nat) (ex : Bool) (f : Nat → Int) (hnc : y.nc < 1000) (hcb : ∀ i, i < y.nc → 0 ≤ y.cb i ∧ y.cb i < n) : Pure Try.prog 68 [yardV y, intsV n ex f] (iV (y.rm f y.nc)) := by
  obtain ⟨O, hO⟩ : ∃ O : Ar, O = std := ⟨_, rfl⟩
  have hnat : ∀ i : Nat, O.nat (Int.ofNat i) = i := fun i => by subst hO; rfl
  have hR : ∀ i, y.rm f (i + 1) = if y.rgt f i = true then O.bin .or .i64 (y.rm f i) (O.bin .shl .i64 1 (O.conv .u64 (Int.ofNat i))) else y.rm f i := fun i => by subst hO; rfl
  have hR0 : y.rm f 0 = 0 := rfl
  have hg : ∀ i, y.rgt f i = inB (f (O.nat (y.cb i))) (y.clo i) (y.chi i) := fun i => by subst hO; rfl
  generalize y.rm f = R at hR hR0 ⊢
  generalize y.rgt f = T at hR hg
  have hb0 : ObjBelow 1 (.cells none false (yardC y)) := ⟨AllB.ok ⟨Below.lit, Below.lit, Below.up (m := 0) (bedsV_below y), Below.up (m := 0) (clmsV_below y), trivial⟩, fun f h => by cases h⟩
  refine pure_of_body tok 3 Try.func68 en68 rfl ⟨yardV_below y, intsV_below _ _ _, trivial⟩ Below.lit ?_
  refine SW.seqRun tok hO (by cbv <;> rfl) (by trivial) ?_
  refine SW.seqRun tok hO (by cbv <;> rfl) (by trivial) ?_
  refine SW.seq ?_
  refine SW.seqRun tok hO (by cbv <;> rfl) (by trivial) ?_
  refine (SW.block (SW.loopF (fun i : Nat => ⟨⟨38, getT [(1, intsV n ex f), (2, .ptr 0 0), (5, iV (R i)), (6, iV i)]⟩, []⟩) (fun _ => ⟨[(0, .cells none false (yardC y))], 1⟩) (fun i => y.nc - i) (fun i => i ≤ y.nc) 0
    (fun _ => rfl) (Nat.zero_le _) (Weak.by rfl rfl (by simp) (Nat.le_refl _) (Nat.le_refl _) ⟨⟨rfl, .inl rfl⟩, ⟨rfl, .inl rfl⟩, ⟨by rw [hR0]; rfl, .inl rfl⟩, ⟨rfl, .inl rfl⟩, trivial⟩ ⟨⟨rfl, by omega, .inl rfl⟩, trivial⟩) fun i hi => ?_))
  have hRi := hR i
  obtain ⟨r, hr⟩ : ∃ r, R i = r := ⟨_, rfl⟩
  rw [hr] at hRi
  show SW _ _ _ _ ⟨⟨38, getT [(1, intsV n ex f), (2, .ptr 0 0), (5, iV (R i)), (6, iV i)]⟩, []⟩ _
  rw [hr]
  refine SW.seq ?_
  refine SW.seqRun tok hO (by cbv <;> rfl) (by trivial) ?_
  refine SW.condS (by cbv <;> rfl) (fun h => SW.skip ?_) (fun h => SW.exit ?_)
  · have hlt : i < y.nc := by
      have : (i : Int) < (y.nc : Int) := by subst hO; simpa [std] using h
      omega
    have k0 : (0 : Int) ≤ Int.ofNat i := Int.natCast_nonneg i
    have kN : Int.ofNat i < Int.ofNat y.nc := Int.ofNat_lt.2 hlt
    have hni : O.nat (Int.ofNat i) = i := hnat i
    have hcv := conv0 hO (Nat.lt_trans hlt hnc)
    have hc : 0 ≤ y.cb (O.nat (Int.ofNat i)) ∧ y.cb (O.nat (Int.ofNat i)) < Int.ofNat n := by rw [hni]; exact hcb i hlt
    have hgi := hg i
    have e29 := in_ok (f (O.nat (y.cb (O.nat (Int.ofNat i))))) (y.clo (O.nat (Int.ofNat i))) (y.chi (O.nat (Int.ofNat i)))
    rw [← hni] at hgi
    rw [← hgi, hni] at e29
    rw [hni] at hgi
    have e29 : Pure Try.prog 29 [iV (f (O.nat (y.cb (O.nat (Int.ofNat i))))), iV (y.clo (O.nat (Int.ofNat i))), iV (y.chi (O.nat (Int.ofNat i)))] (.sb (T i)) := by rw [hni]; exact e29
    obtain ⟨B, hB⟩ : ∃ B, T i = B := ⟨_, rfl⟩
    rw [hB] at e29 hRi
    have hbig : i < 4611686018427387904 := by omega
    refine SW.seq (SW.block ?_)
    refine SW.seqRun tok hO (by cbv <;> rfl) (by exact ⟨k0, kN⟩) ?_
    refine SW.seqRunD tok mixed hO (by kernel_rfl) (by cbv <;> rfl) (by exact hc) ?_
    refine AnyE.callP e29 (by cbv <;> rfl) (by cbv <;> rfl) ?_
    refine AnyE.done (by kernel_rfl) ?_
    refine SW.condS (by cbv <;> rfl) (fun h2 => ?_) (fun h2 => SW.skip ?_)
    · rw [show B = true from h2, if_pos rfl] at hRi
      refine SW.run tok hO (by cbv <;> rfl) (by repeat (first | exact trivial | exact hcv | refine ⟨?_, ?_⟩)) ?_
      refine SW.run tok hO (by cbv <;> rfl) (by trivial) ?_
      exact ⟨i + 1, by omega, by omega, Weak.by rfl rfl (by simp) (Nat.le_refl _) (by show 1 ≤ 2; omega) ⟨⟨rfl, .inr (Below.up (m := 0) (intsV_below _ _ _))⟩, ⟨rfl, .inr (Below.ptr (by omega))⟩, ⟨by rw [hRi]; rfl, .inr Below.lit⟩, ⟨inc_ok hO hbig, .inr Below.lit⟩, trivial⟩ ⟨⟨rfl, by omega, .inr hb0⟩, trivial⟩⟩
    · rw [show B = false from h2, if_neg (by decide)] at hRi
      refine SW.run tok hO (by cbv <;> rfl) (by trivial) ?_
      exact ⟨i + 1, by omega, by omega, Weak.by rfl rfl (by simp) (Nat.le_refl _) (by show 1 ≤ 2; omega) ⟨⟨rfl, .inr (Below.up (m := 0) (intsV_below _ _ _))⟩, ⟨rfl, .inr (Below.ptr (by omega))⟩, ⟨by rw [hRi]; rfl, .inr Below.lit⟩, ⟨inc_ok hO hbig, .inr Below.lit⟩, trivial⟩ ⟨⟨rfl, by omega, .inr hb0⟩, trivial⟩⟩
  · have hz : i = y.nc := by
      have : (y.nc : Int) ≤ (i : Int) := by subst hO; simpa [std] using h
      omega
    subst hz
    refine SW.seqRun tok hO (by cbv <;> rfl) (by trivial) ?_
    exact SW.ret ⟨_, _, rfl, rfl, Eqv.int hr.symm⟩
end Go.Fz
set_option linter.unusedVariables false
set_option linter.unusedSimpArgs false
namespace Go.Fz
open Go.Proofs
set_option maxRecDepth 100000
end Go.Fz
set_option linter.unusedVariables false
set_option linter.unusedSimpArgs false
namespace Go.Fz
open Go.Proofs
set_option maxRecDepth 100000
end Go.Fz
