/- Own work of the verifier of watercress: FzRw2, FzTd2, FzTd3, FzTd4, FzTd5, FzTd6, FzTd7, FzSh1, FzSh2, FzWk2. -/
import Derived.Below
import Derived.CallsIn
import Derived.Carry
import Derived.ChangeKeysEq
import Derived.ChangeSame
import Derived.Deep.Slices
import Derived.DeepKeys4
import Derived.JoinedCond
import Derived.Laws.AppendOwn
import Derived.Laws.Cells
import Derived.Laws.CopyRow
import Derived.Laws.Cover3
import Derived.Laws.Entries
import Derived.Laws.NewFold
import Derived.Laws.Sem
import Derived.Laws.Small
import Derived.Laws.StructEq
import Derived.Laws.Tables
import Derived.Laws.World
import Derived.Lib.SmallJoins
import Derived.Maps.Keyed
import Derived.Maps.RangeRun
import Derived.OpenShut
import Derived.OrdersHeld
import Derived.OrdersIn
import Derived.ProofKit
import Derived.RangeFuncLeaves
import Derived.RangeFuncRecord
import Derived.Shelf.Abstract
import Derived.WalkKit
import Derived.WideKeyArgs
import Derived.Test.YtcjekdfncnmbfaaNl0
import Derived.Test.YtcjekdfncnmbfaaNa10
import Derived.Test.YtcjekdfncnmbfaaNa11
import Derived.Test.YtcjekdfncnmbfaaNa13
import Derived.Test.YtcjekdfncnmbfaaNa16
import Derived.Test.YtcjekdfncnmbfaaNa14
import Derived.Test.YtcjekdfncnmbfaaNa18
import Derived.Test.YtcjekdfncnmbfaaNa15
import Derived.Test.YtcjekdfncnmbfaaNa19
import Derived.Test.YtcjekdfncnmbfaaNa20
import Derived.Test.YtcjekdfncnmbfaaNa22
import Derived.Test.YtcjekdfncnmbfaaNa12
import Derived.Test.YtcjekdfncnmbfaaNa17
import Derived.Test.YtcjekdfncnmbfaaNl1
import Derived.Test.YtcjekdfncnmbfaaNl2
import Derived.Test.YtcjekdfncnmbfaaNa0
import Derived.Test.YtcjekdfncnmbfaaNa1
import Derived.Test.YtcjekdfncnmbfaaNa2
import Derived.Test.YtcjekdfncnmbfaaNa3
import Derived.Test.YtcjekdfncnmbfaaNa4
import Derived.Test.YtcjekdfncnmbfaaNa5
import Derived.Test.YtcjekdfncnmbfaaNa6
import Derived.Test.YtcjekdfncnmbfaaNa7
import Derived.Test.YtcjekdfncnmbfaaNa8
import Derived.Test.YtcjekdfncnmbfaaNa9
import Derived.Test.YtcjekdfncnmbfaaProg
import Derived.Test.YtcjekdfncnmbfaaRows
set_option linter.unusedVariables false
set_option linter.unusedSimpArgs false
set_option linter.unusedVariables false
set_option linter.unusedSimpArgs false
namespace Go.Fz
open Go.Proofs
set_option maxRecDepth 100000
def fdB (A : Nat → Nat → Int) (k : Nat) (w : Int) : Nat → Bool
  | 0 => false
  | i + 1 => fdB A k w i || decide (A i k = w)
theorem fdB_iff {A : Nat → Nat → Int} {k : Nat} {w : Int} : ∀ {n}, fdB A k w n = true ↔ ∃ i, i < n ∧ A i k = w
  | 0 => ⟨fun h => (by cases h), fun ⟨i, h, _⟩ => absurd h (Nat.not_lt_zero _)⟩
  | n + 1 => by
    show (fdB A k w n || decide (A n k = w)) = true ↔ _
    rw [Bool.or_eq_true, fdB_iff, decide_eq_true_eq]
    constructor
    · rintro (⟨i, h1, h2⟩ | h)
      · exact ⟨i, by omega, h2⟩
      · exact ⟨n, by omega, h⟩
    · rintro ⟨i, h1, h2⟩
      by_cases e : i = n
      · subst e; exact .inr h2
      · exact .inl ⟨i, by omega, h2⟩
theorem any_fd (S : List (Nat → Int)) (b w : Int) : anyW S b w = fdB (fun i => S.getD i f0) b.toNat w S.length := by
  refine Bool.eq_iff_iff.2 ?_
  rw [fdB_iff]
  unfold anyW
  rw [decide_eq_true_eq]
  constructor
  · rintro ⟨i, h1, h2⟩; exact ⟨i, h1, of_decide_eq_true h2⟩
  · rintro ⟨i, h1, h2⟩; exact ⟨i, h1, decide_eq_true h2⟩
set_option maxHeartbeats 16000000 in
theorem refWeeks_ok (y : YardD) (l9 : y.last ≤ 9) (nb : Nat) (S : List (Nat → Int)) (K : Int) (k0 : 0 ≤ K) (k1 : K < (nb : Int)) (hS : S.length < 1000000) : Pure Try.prog 31 [yardV y, llV nb S, iV K] (zV (wkN S K 0 (y.last + 1).toNat)) := by
  obtain ⟨O, hO⟩ : ∃ O : Ar, O = std := ⟨_, rfl⟩
  have hnat : ∀ i : Nat, O.nat (Int.ofNat i) = i := fun i => by subst hO; rfl
  have hnK : O.nat K = K.toNat := by subst hO; rfl
  obtain ⟨A, hA⟩ : ∃ A : Nat → Nat → Int, A = fun i => S.getD i f0 := ⟨_, rfl⟩
  have hLV : llV nb S = .isl S.length 1 false (fun i _ => intsV nb false (A i)) := by rw [hA]; rfl
  have hLb := llV_below nb S
  rw [hLV] at hLb ⊢
  obtain ⟨N, hN⟩ : ∃ N, S.length = N := ⟨_, rfl⟩
  have hC0 : wkN S K 0 0 = [] := rfl
  have hC : ∀ w, wkN S K 0 (w + 1) = if fdB A K.toNat (Int.ofNat w) N = true then wkN S K 0 w ++ [Int.ofNat w] else wkN S K 0 w := fun w => by
    show nxW S K (wkN S K 0 w) (0 + (w : Nat)) = _
    unfold nxW
    rw [any_fd, hN, ← hA, Int.zero_add]
    rfl
  have hCL : ∀ w, (wkN S K 0 w).length ≤ w := wkN_len S K 0
  rw [hN] at hLb hS ⊢
  generalize wkN S K 0 = C at hC0 hC hCL ⊢
  have hF0 : ∀ w, fdB A K.toNat w 0 = false := fun w => rfl
  have hFs : ∀ w i, fdB A K.toNat (Int.ofNat w) (i + 1) = (fdB A K.toNat (Int.ofNat w) i || O.cmp .eql (A (O.nat (Int.ofNat i)) (O.nat K)) (Int.ofNat w)) := fun w i => by rw [hnat, hnK]; subst hO; rfl
  generalize fdB A K.toNat = F at hC hF0 hFs
  obtain ⟨M, hM⟩ : ∃ M, (y.last + 1).toNat = M := ⟨_, rfl⟩
  have hlM : ∀ w : Nat, (Int.ofNat w ≤ y.last ↔ w < M) := fun w => by
    have e : (Int.ofNat w : Int) = (w : Int) := rfl
    rw [e]; omega
  have hM10 : M ≤ 10 := by omega
  have hKn : (0 : Int) ≤ K ∧ K < Int.ofNat nb := ⟨k0, k1⟩
  rw [hM]
  clear hM hLV hA hN hnK
  refine pure_of_body tok 3 Try.func31 en31 rfl ⟨yardV_below y, hLb, Below.lit, trivial⟩ (zV_below _) ?_
  refine SW.seqRun tok hO (by cbv <;> rfl) (by trivial) ?_
  refine SW.seqRun tok hO (by cbv <;> rfl) (by trivial) ?_
  refine SW.seq ?_
  refine SW.seqRun tok hO (by cbv <;> rfl) (by trivial) ?_
  refine (SW.block (SW.loopR (fun w : Nat => ⟨⟨41, getT [(1, .isl N 1 false (fun i _ => intsV nb false (A i))), (2, iV K), (3, .ptr 0 0), (7, slG 1 1 (C w).length), (8, iV (w : Nat))]⟩, []⟩) (fun w => ⟨[(0, .cells none false (yardC y))] ++ objG 1 1 (zC (C w)) (C w).length, 2⟩) (fun w => M - w) (fun w => w ≤ M) 0 (Nat.zero_le _) (ren1 1 1) ?_ fun w hw => ?_))
  · rw [hC0]
    exact WeakR.up rfl rfl (by simp) (Nat.le_refl _) (.inl rfl) (by show 1 ≤ 2; omega) ⟨RenV.closed hLb, RenV.closed Below.lit, RenV.ptr (by omega), RenV.closed Below.lit, RenV.closed Below.lit, trivial⟩ ⟨⟨by omega, _, rfl, .cells (RenVs.closed (yardC_below y)), .inr rfl⟩, trivial⟩ (fun p hp => by cases hp)
  have hCw := hC w
  have hCl := hCL w
  have hbig : w < 4611686018427387904 := by omega
  have hsn := zC_app (C w) (Int.ofNat w)
  have hF0 := hF0 (Int.ofNat w)
  have hFs := hFs w
  generalize F (Int.ofNat w) = FW at hF0 hFs hCw
  have hgo : ∀ (f' : Fm) (st' : St) (ρ : Nat → Nat), w < M → WeakR 1 ρ f' st' ⟨⟨41, getT [(1, .isl N 1 false (fun i _ => intsV nb false (A i))), (2, iV K), (3, .ptr 0 0), (7, slG 1 1 (C (w + 1)).length), (8, iV ((w + 1) : Nat))]⟩, []⟩ ⟨[(0, .cells none false (yardC y))] ++ objG 1 1 (zC (C (w + 1))) (C (w + 1)).length, 2⟩ → ∃ x', M - x' < M - w ∧ x' ≤ M ∧ ∃ ρ, WeakR 1 ρ f' st' ⟨⟨41, getT [(1, .isl N 1 false (fun i _ => intsV nb false (A i))), (2, iV K), (3, .ptr 0 0), (7, slG 1 1 (C x').length), (8, iV (x' : Nat))]⟩, []⟩ ⟨[(0, .cells none false (yardC y))] ++ objG 1 1 (zC (C x')) (C x').length, 2⟩ := fun f' st' ρ h1 h => ⟨w + 1, by omega, by omega, ρ, h⟩
  obtain ⟨L, hL⟩ : ∃ L, C w = L := ⟨_, rfl⟩
  rw [hL] at hCw hCl hsn
  show SW _ _ _ _ ⟨⟨41, getT [(1, .isl N 1 false (fun i _ => intsV nb false (A i))), (2, iV K), (3, .ptr 0 0), (7, slG 1 1 (C w).length), (8, iV (w : Nat))]⟩, []⟩ ⟨[(0, .cells none false (yardC y))] ++ objG 1 1 (zC (C w)) (C w).length, 2⟩
  rw [hL]
  have hend : ∀ (h : Hp) (G : List AV), w = M → (L.length = 0 ∨ ∃ m, L.length = m + 1 ∧ G = flatG 1 (zC L) (m + 1) ∧ h.get 1 = some (.cells none false G)) → Eqv (frz h (fun _ => true) 3 (slG 1 1 L.length)) (zV (C M)) := fun h G hiN hq => by
    rw [← hiN, hL]
    unfold zV
    rcases hq with hq | ⟨m, hm, hG, hg⟩
    · rw [hq]; exact Eqv.nil
    · rw [hm]
      show Eqv (frz _ _ 3 (.sl 1 0 (m + 1) 1 false)) _
      rw [frz_slE (fm := none) (G := G) rfl hg (by rw [hG, flatG_length]; omega)]
      exact Eqv.isl rfl fun i' k hi' hk => Eqv.of (by rw [hG]; exact frz_flat hi' hk rfl)
  clear hC hC0 hCL
  have hzb := zC_below L
  generalize hLL : zC L = LL at hsn hend hzb
  cases hm : L.length with
  | zero =>
    show SW _ _ _ _ ⟨⟨41, getT [(1, .isl N 1 false (fun i _ => intsV nb false (A i))), (2, iV K), (3, .ptr 0 0), (7, nl3), (8, iV (Int.ofNat w))]⟩, []⟩ ⟨[(0, .cells none false (yardC y))], 2⟩
    refine SW.seq ?_
    refine SW.seqRun tok hO (by cbv <;> rfl) (by trivial) ?_
    refine SW.condS (by cbv <;> rfl) (fun h => SW.skip ?_) (fun h => SW.exit ?_)
    · have hlt : w < M := (hlM w).1 (by subst hO; simpa [std] using h)
      refine SW.seq (SW.block ?_)
      refine SW.seqRun tok hO (by cbv <;> rfl) (by trivial) ?_
      refine SW.slot 9 (.lit (.bool false)) (.sb false) rfl (Eqv.bool rfl) ?_
      refine SW.seq ?_
      refine SW.seqRun tok hO (by cbv <;> rfl) (by trivial) ?_
      refine (SW.block (SW.loopF (fun i : Nat => ⟨⟨41, getT [(1, .isl N 1 false (fun i _ => intsV nb false (A i))), (2, iV K), (3, .ptr 0 0), (7, nl3), (8, iV (Int.ofNat w)), (9, .sb (FW i)), (10, iV (i : Nat))]⟩, []⟩) (fun _ => ⟨[(0, .cells none false (yardC y))], 2⟩) (fun i => N - i) (fun i => i ≤ N) 0
        (fun _ => rfl) (Nat.zero_le _) (Weak.by rfl rfl (by simp) (Nat.le_refl _) (Nat.le_refl _) ⟨⟨rfl, .inl rfl⟩, ⟨rfl, .inl rfl⟩, ⟨rfl, .inl rfl⟩, ⟨rfl, .inl rfl⟩, ⟨rfl, .inl rfl⟩, ⟨by rw [hF0]; rfl, .inl rfl⟩, ⟨rfl, .inl rfl⟩, trivial⟩ ⟨⟨rfl, by omega, .inl rfl⟩, trivial⟩) fun i hi => ?_))
      have hFi := hFs i
      obtain ⟨B, hB⟩ : ∃ B, FW i = B := ⟨_, rfl⟩
      rw [hB] at hFi
      show SW _ _ _ _ ⟨⟨41, getT [(1, .isl N 1 false (fun i _ => intsV nb false (A i))), (2, iV K), (3, .ptr 0 0), (7, nl3), (8, iV (Int.ofNat w)), (9, .sb (FW i)), (10, iV (i : Nat))]⟩, []⟩ _
      rw [hB]
      refine SW.seq ?_
      refine SW.seqRun tok hO (by cbv <;> rfl) (by trivial) ?_
      refine SW.condS (by cbv <;> rfl) (fun h => SW.skip ?_) (fun h => SW.exit ?_)
      · have hlt : i < N := by
          have : (i : Int) < (N : Int) := by subst hO; simpa [std] using h
          omega
        have hin : (0 : Int) ≤ Int.ofNat i ∧ Int.ofNat i < Int.ofNat N := ⟨Int.natCast_nonneg i, Int.ofNat_lt.2 hlt⟩
        have hib : i < 4611686018427387904 := by omega
        refine SW.seq (SW.block ?_)
        refine SW.run tok hO (by cbv <;> rfl) (by trivial) ?_
        refine OpsW.splitG (by cbv <;> rfl) (fun h2 => ?_) (fun h2 => ?_)
        · have hBt : B = true := h2
          refine OpsW.run tok hO (by cbv <;> rfl) (by trivial) ?_
          refine SW.slot 9 (.lit (.bool true)) (.sb (FW (i + 1))) rfl (Eqv.bool (by rw [hFi, hBt]; rfl)) ?_
          refine SW.run tok hO (by cbv <;> rfl) (by trivial) ?_
          exact ⟨i + 1, by omega, by omega, Weak.by rfl rfl (by simp) (Nat.le_refl _) (Nat.le_refl _) ⟨⟨rfl, .inl rfl⟩, ⟨rfl, .inl rfl⟩, ⟨rfl, .inl rfl⟩, ⟨rfl, .inl rfl⟩, ⟨rfl, .inl rfl⟩, ⟨rfl, .inl rfl⟩, ⟨inc_ok hO hib, .inl rfl⟩, trivial⟩ ⟨⟨rfl, by omega, .inl rfl⟩, trivial⟩⟩
        · have hBf : B = false := h2
          refine OpsW.run tok hO (by cbv <;> rfl) (by repeat (first | exact trivial | exact hin | exact hKn | refine ⟨?_, ?_⟩)) ?_
          refine SW.slot 9 (.sb (O.cmp .eql (A (O.nat (Int.ofNat i)) (O.nat K)) (Int.ofNat w))) (.sb (FW (i + 1))) rfl (Eqv.sb (by rw [hFi, hBf, Bool.false_or])) ?_
          refine SW.run tok hO (by cbv <;> rfl) (by trivial) ?_
          exact ⟨i + 1, by omega, by omega, Weak.by rfl rfl (by simp) (Nat.le_refl _) (Nat.le_refl _) ⟨⟨rfl, .inl rfl⟩, ⟨rfl, .inl rfl⟩, ⟨rfl, .inl rfl⟩, ⟨rfl, .inl rfl⟩, ⟨rfl, .inl rfl⟩, ⟨rfl, .inl rfl⟩, ⟨inc_ok hO hib, .inl rfl⟩, trivial⟩ ⟨⟨rfl, by omega, .inl rfl⟩, trivial⟩⟩
      have hiN : i = N := by
        have : (N : Int) ≤ (i : Int) := by subst hO; simpa [std] using h
        omega
      rw [hiN] at hB
      rw [hB] at hCw
      refine SW.seqRun tok hO (by cbv <;> rfl) (by trivial) ?_
      refine SW.condS (by cbv <;> rfl) (fun h2 => ?_) (fun h2 => SW.skip ?_)
      · rw [show B = true from h2, if_pos rfl] at hCw
        refine SW.runN tok hO 3 (by cbv <;> rfl) (by trivial) ?_
        refine OpsW.appNil tok (by cbv <;> rfl) (by rfl) (by kernel_rfl) (by rfl) (by rfl) ?_
        refine OpsW.run tok hO (by cbv <;> rfl) (by trivial) ?_
        refine SW.run tok hO (by cbv <;> rfl) (by trivial) ?_
        refine hgo _ _ (ren1 1 3) hlt ?_
        rw [hCw, List.length_append, List.length_singleton, hm]
        refine WeakR.up rfl rfl (by simp) (Nat.le_refl _) (.inr (by omega)) (by show 1 ≤ 2; omega) ⟨RenV.closed hLb, RenV.closed Below.lit, RenV.ptr (by omega), RenV.sl (by omega), RenV.inc hO hbig, trivial⟩ ⟨⟨by omega, _, rfl, .cells (RenVs.closed (yardC_below y)), .inr rfl⟩, trivial⟩ (fun p hp => ?_)
        obtain rfl := objG_mem hp
        refine ⟨by omega, _, rfl, .cells (RenVs.of_eq ?_ (flatG_below (zC_below _) _)), .inl rfl⟩
        have := hsn
        rw [List.length_append, List.length_singleton, hm] at this
        exact this
      · rw [show B = false from h2, if_neg (by decide)] at hCw
        refine SW.run tok hO (by cbv <;> rfl) (by trivial) ?_
        refine hgo _ _ (ren1 1 1) hlt ?_
        rw [hCw, hm]
        exact WeakR.up rfl rfl (by simp) (Nat.le_refl _) (.inl rfl) (by show 1 ≤ 2; omega) ⟨RenV.closed hLb, RenV.closed Below.lit, RenV.ptr (by omega), RenV.closed Below.lit, RenV.inc hO hbig, trivial⟩ ⟨⟨by omega, _, rfl, .cells (RenVs.closed (yardC_below y)), .inr rfl⟩, trivial⟩ (fun p hp => by cases hp)
    · have hge : w = M := by
        have h4 : ¬ Int.ofNat w ≤ y.last := by subst hO; simpa [std] using h
        have : ¬ w < M := fun hq => h4 ((hlM w).2 hq)
        omega
      refine SW.seqRun tok hO (by cbv <;> rfl) (by trivial) ?_
      refine SW.ret ⟨_, _, rfl, rfl, ?_⟩
      have := hend [(0, .cells none false (yardC y))] [] hge (.inl hm)
      rw [hm] at this
      exact this
  | succ m =>
    obtain ⟨G, hG⟩ : ∃ G, G = flatG 1 LL (m + 1) := ⟨_, rfl⟩
    show SW _ _ _ _ ⟨⟨41, getT [(1, .isl N 1 false (fun i _ => intsV nb false (A i))), (2, iV K), (3, .ptr 0 0), (7, .sl 1 0 (m + 1) 1 false), (8, iV (Int.ofNat w))]⟩, []⟩ ⟨[(0, .cells none false (yardC y)), (1, .cells none false (flatG 1 LL (m + 1)))], 2⟩
    rw [← hG]
    refine SW.seq ?_
    refine SW.seqRun tok hO (by cbv <;> rfl) (by trivial) ?_
    refine SW.condS (by cbv <;> rfl) (fun h => SW.skip ?_) (fun h => SW.exit ?_)
    · have hlt : w < M := (hlM w).1 (by subst hO; simpa [std] using h)
      refine SW.seq (SW.block ?_)
      refine SW.seqRun tok hO (by cbv <;> rfl) (by trivial) ?_
      refine SW.slot 9 (.lit (.bool false)) (.sb false) rfl (Eqv.bool rfl) ?_
      refine SW.seq ?_
      refine SW.seqRun tok hO (by cbv <;> rfl) (by trivial) ?_
      refine (SW.block (SW.loopF (fun i : Nat => ⟨⟨41, getT [(1, .isl N 1 false (fun i _ => intsV nb false (A i))), (2, iV K), (3, .ptr 0 0), (7, .sl 1 0 (m + 1) 1 false), (8, iV (Int.ofNat w)), (9, .sb (FW i)), (10, iV (i : Nat))]⟩, []⟩) (fun _ => ⟨[(0, .cells none false (yardC y)), (1, .cells none false G)], 2⟩) (fun i => N - i) (fun i => i ≤ N) 0
        (fun _ => rfl) (Nat.zero_le _) (Weak.by rfl rfl (by simp) (Nat.le_refl _) (Nat.le_refl _) ⟨⟨rfl, .inl rfl⟩, ⟨rfl, .inl rfl⟩, ⟨rfl, .inl rfl⟩, ⟨rfl, .inl rfl⟩, ⟨rfl, .inl rfl⟩, ⟨by rw [hF0]; rfl, .inl rfl⟩, ⟨rfl, .inl rfl⟩, trivial⟩ ⟨⟨rfl, by omega, .inl rfl⟩, ⟨rfl, by omega, .inl rfl⟩, trivial⟩) fun i hi => ?_))
      have hFi := hFs i
      obtain ⟨B, hB⟩ : ∃ B, FW i = B := ⟨_, rfl⟩
      rw [hB] at hFi
      show SW _ _ _ _ ⟨⟨41, getT [(1, .isl N 1 false (fun i _ => intsV nb false (A i))), (2, iV K), (3, .ptr 0 0), (7, .sl 1 0 (m + 1) 1 false), (8, iV (Int.ofNat w)), (9, .sb (FW i)), (10, iV (i : Nat))]⟩, []⟩ _
      rw [hB]
      refine SW.seq ?_
      refine SW.seqRun tok hO (by cbv <;> rfl) (by trivial) ?_
      refine SW.condS (by cbv <;> rfl) (fun h => SW.skip ?_) (fun h => SW.exit ?_)
      · have hlt : i < N := by
          have : (i : Int) < (N : Int) := by subst hO; simpa [std] using h
          omega
        have hin : (0 : Int) ≤ Int.ofNat i ∧ Int.ofNat i < Int.ofNat N := ⟨Int.natCast_nonneg i, Int.ofNat_lt.2 hlt⟩
        have hib : i < 4611686018427387904 := by omega
        refine SW.seq (SW.block ?_)
        refine SW.run tok hO (by cbv <;> rfl) (by trivial) ?_
        refine OpsW.splitG (by cbv <;> rfl) (fun h2 => ?_) (fun h2 => ?_)
        · have hBt : B = true := h2
          refine OpsW.run tok hO (by cbv <;> rfl) (by trivial) ?_
          refine SW.slot 9 (.lit (.bool true)) (.sb (FW (i + 1))) rfl (Eqv.bool (by rw [hFi, hBt]; rfl)) ?_
          refine SW.run tok hO (by cbv <;> rfl) (by trivial) ?_
          exact ⟨i + 1, by omega, by omega, Weak.by rfl rfl (by simp) (Nat.le_refl _) (Nat.le_refl _) ⟨⟨rfl, .inl rfl⟩, ⟨rfl, .inl rfl⟩, ⟨rfl, .inl rfl⟩, ⟨rfl, .inl rfl⟩, ⟨rfl, .inl rfl⟩, ⟨rfl, .inl rfl⟩, ⟨inc_ok hO hib, .inl rfl⟩, trivial⟩ ⟨⟨rfl, by omega, .inl rfl⟩, ⟨rfl, by omega, .inl rfl⟩, trivial⟩⟩
        · have hBf : B = false := h2
          refine OpsW.run tok hO (by cbv <;> rfl) (by repeat (first | exact trivial | exact hin | exact hKn | refine ⟨?_, ?_⟩)) ?_
          refine SW.slot 9 (.sb (O.cmp .eql (A (O.nat (Int.ofNat i)) (O.nat K)) (Int.ofNat w))) (.sb (FW (i + 1))) rfl (Eqv.sb (by rw [hFi, hBf, Bool.false_or])) ?_
          refine SW.run tok hO (by cbv <;> rfl) (by trivial) ?_
          exact ⟨i + 1, by omega, by omega, Weak.by rfl rfl (by simp) (Nat.le_refl _) (Nat.le_refl _) ⟨⟨rfl, .inl rfl⟩, ⟨rfl, .inl rfl⟩, ⟨rfl, .inl rfl⟩, ⟨rfl, .inl rfl⟩, ⟨rfl, .inl rfl⟩, ⟨rfl, .inl rfl⟩, ⟨inc_ok hO hib, .inl rfl⟩, trivial⟩ ⟨⟨rfl, by omega, .inl rfl⟩, ⟨rfl, by omega, .inl rfl⟩, trivial⟩⟩
      have hiN : i = N := by
        have : (N : Int) ≤ (i : Int) := by subst hO; simpa [std] using h
        omega
      rw [hiN] at hB
      rw [hB] at hCw
      refine SW.seqRun tok hO (by cbv <;> rfl) (by trivial) ?_
      refine SW.condS (by cbv <;> rfl) (fun h2 => ?_) (fun h2 => SW.skip ?_)
      · rw [show B = true from h2, if_pos rfl] at hCw
        refine SW.runN tok hO 3 (by cbv <;> rfl) (by trivial) ?_
        refine OpsW.appOne (g := LL) tok (by cbv <;> rfl) (by rfl) (by rfl) hG (by kernel_rfl) (by rfl) (by rfl) (by omega) fun G' hG' => ?_
        refine OpsW.run tok hO (by cbv <;> rfl) (by trivial) ?_
        refine SW.run tok hO (by cbv <;> rfl) (by trivial) ?_
        refine hgo _ _ (ren1 1 3) hlt ?_
        rw [hCw, List.length_append, List.length_singleton, hm]
        refine WeakR.up rfl rfl (by simp) (Nat.le_refl _) (.inr (by omega)) (by show 1 ≤ 2; omega) ⟨RenV.closed hLb, RenV.closed Below.lit, RenV.ptr (by omega), RenV.sl (by omega), RenV.inc hO hbig, trivial⟩ ⟨⟨by omega, _, rfl, .cells (RenVs.closed (yardC_below y)), .inr rfl⟩, trivial⟩ (fun p hp => ?_)
        obtain rfl := objG_mem hp
        refine ⟨by omega, _, rfl, .cells (RenVs.of_eq ?_ (flatG_below (zC_below _) _)), .inl rfl⟩
        have := hsn
        rw [List.length_append, List.length_singleton, hm] at this
        exact hG'.trans this
      · rw [show B = false from h2, if_neg (by decide)] at hCw
        refine SW.run tok hO (by cbv <;> rfl) (by trivial) ?_
        refine hgo _ _ (ren1 1 1) hlt ?_
        rw [hCw, hm]
        refine WeakR.up rfl rfl (by simp) (Nat.le_refl _) (.inl rfl) (by show 1 ≤ 2; omega) ⟨RenV.closed hLb, RenV.closed Below.lit, RenV.ptr (by omega), RenV.sl (by omega), RenV.inc hO hbig, trivial⟩ ⟨⟨by omega, _, rfl, .cells (RenVs.closed (yardC_below y)), .inr rfl⟩, trivial⟩ (fun p hp => ?_)
        obtain rfl := objG_mem hp
        exact ⟨by omega, _, rfl, .cells (RenVs.of_eq (by rw [hG, ← hLL]) (flatG_below (zC_below _) _)), .inl rfl⟩
    · have hge : w = M := by
        have h4 : ¬ Int.ofNat w ≤ y.last := by subst hO; simpa [std] using h
        have : ¬ w < M := fun hq => h4 ((hlM w).2 hq)
        omega
      refine SW.seqRun tok hO (by cbv <;> rfl) (by trivial) ?_
      refine SW.ret ⟨_, _, rfl, rfl, ?_⟩
      have := hend [(0, .cells none false (yardC y)), (1, .cells none false G)] G hge (.inr ⟨m, hm, hG, rfl⟩)
      rw [hm] at this
      exact this
end Go.Fz
set_option linter.unusedVariables false
set_option linter.unusedSimpArgs false
namespace Go.Fz
open Go.Proofs
set_option maxRecDepth 100000
end Go.Fz
set_option linter.unusedVariables false
set_option linter.unusedSimpArgs false
namespace Go.Fz
open Go.Proofs
set_option maxRecDepth 100000
end Go.Fz
set_option linter.unusedVariables false
set_option linter.unusedSimpArgs false
namespace Go.Fz
open Go.Proofs
set_option maxRecDepth 100000
end Go.Fz
set_option linter.unusedVariables false
set_option linter.unusedSimpArgs false
namespace Go.Fz
open Go.Proofs
set_option maxRecDepth 100000
end Go.Fz
set_option linter.unusedVariables false
set_option linter.unusedSimpArgs false
namespace Go.Fz
open Go.Proofs
set_option maxRecDepth 100000
end Go.Fz
set_option linter.unusedVariables false
namespace Go.Fz
open Go.Proofs
set_option maxRecDepth 100000
theorem same_zV {l : List Int} (h : l.length < 1000) : Pure Try.prog 30 [zV l, zV l] (.sb true) := by
  have h := same_ok l.length l.length false false (fun j => l.getD j 0) (fun j => l.getD j 0) h h
  rw [same_self] at h
  exact h
end Go.Fz
set_option linter.unusedVariables false
set_option linter.unusedSimpArgs false
namespace Go.Fz
open Go.Proofs
set_option maxRecDepth 100000
end Go.Fz
set_option linter.unusedVariables false
namespace Go.Fz
open Go.Proofs
set_option maxRecDepth 100000
end Go.Fz
set_option linter.unusedVariables false
namespace Go.Fz
open Go.Proofs
set_option maxRecDepth 100000
theorem nxW_app {S : List (Nat → Int)} {b v : Int} (X Y : List Int) : nxW S b (X ++ Y) v = X ++ nxW S b Y v := by
  unfold nxW
  split
  · rw [List.append_assoc]
  · rfl
theorem wkN_app {S : List (Nat → Int)} {b l : Int} (a : Nat) : ∀ c, wkN S b l (a + c) = wkN S b l a ++ wkN S b (l + a) c
  | 0 => (List.append_nil _).symm
  | c + 1 => by
    show nxW S b (wkN S b l (a + c)) (l + ((a + c : Nat) : Int)) = wkN S b l a ++ nxW S b (wkN S b (l + a) c) (l + a + (c : Nat))
    rw [wkN_app a c, nxW_app]
    congr 2
    omega
theorem wkN_none {S : List (Nat → Int)} {b l : Int} : ∀ n, (∀ i : Nat, i < n → anyW S b (l + i) = false) → wkN S b l n = []
  | 0, _ => rfl
  | n + 1, h => by
    show nxW S b (wkN S b l n) (l + (n : Nat)) = []
    rw [wkN_none n fun i hi => h i (by omega)]
    unfold nxW
    rw [if_neg (by rw [h n (by omega)]; decide)]
theorem wkN_shift {S : List (Nat → Int)} {b : Int} {lo c m : Nat} (h : ∀ w, anyW S b w = true → (lo : Int) ≤ w ∧ w < lo + c) (hm : lo + c ≤ m) : wkN S b 0 m = wkN S b lo c := by
  obtain ⟨r, rfl⟩ : ∃ r, m = lo + c + r := ⟨m - (lo + c), by omega⟩
  have hf : ∀ w, ¬ ((lo : Int) ≤ w ∧ w < lo + c) → anyW S b w = false := fun w hw => by
    cases hq : anyW S b w with
    | false => rfl
    | true => exact absurd (h w hq) hw
  rw [wkN_app (lo + c) r, wkN_app lo c, wkN_none lo fun i hi => hf _ (by omega), wkN_none r fun i hi => hf _ (by omega)]
  simp
theorem any_cl {y : YardD} (hc : y.check = 0) {k : Nat} (hk : k < y.nb) (w : Int) : anyW (y.clR (allI y.nc)) (k : Int) w = anyW y.kept (k : Int) w := by
  have e : (k : Int).toNat = k := rfl
  refine Bool.eq_iff_iff.2 ⟨fun h => ?_, fun h => ?_⟩
  · obtain ⟨f, hf, h2⟩ := anyW_iff.1 h
    refine anyW_iff.2 ⟨_, cl_kept hc hf, ?_⟩
    rw [e] at h2 ⊢
    rw [lessF_lt hk]; exact h2
  · obtain ⟨g, hg, h2⟩ := anyW_iff.1 h
    obtain ⟨f, hf, hfg⟩ := kept_cl hc hg
    refine anyW_iff.2 ⟨f, hf, ?_⟩
    rw [e] at h2 ⊢
    rw [hfg k hk]; exact h2
theorem wk_eq {y : YardD} (hc : y.check = 0) (ho : y.ownE true = 0) {k : Nat} (hk : k < y.nb) : wkN (y.clR (allI y.nc)) (k : Int) 0 (y.last + 1).toNat = y.wkL (k : Int) := by
  obtain ⟨hfit, l0, l9, _⟩ := y.fit_of_check hc
  have hb := hfit.beg k hk
  have hv := (valid_iff.1 (check_zero.1 hc).2.1).2.2.1 k hk
  have e : (k : Int).toNat = k := rfl
  have hw : y.wkL (k : Int) = wkN y.kept (k : Int) (y.blo k) (y.bhi k - y.blo k + 1).toNat := by
    unfold YardD.wkL
    have hB : y.hasB (k : Int) = true := by
      unfold YardD.hasB
      rw [decide_eq_true (Int.natCast_nonneg k), decide_eq_true (Int.ofNat_lt.2 hk)]; rfl
    rw [hB, (YardD.own_some ho).1, e]
  rw [hw, wkN_congr (S' := y.kept) (fun w => any_cl hc hk w)]
  have h1 : ((y.blo k).toNat : Int) = y.blo k := Int.toNat_of_nonneg (by omega)
  rw [wkN_shift (lo := (y.blo k).toNat) (c := (y.bhi k - y.blo k + 1).toNat) (fun w h => ?_) (by omega), h1]
  obtain ⟨g, hg, h2⟩ := anyW_iff.1 h
  have hr := (mem_allS.1 (mem_kept.1 hg).1).2.rng k (List.mem_range.2 hk)
  rw [e] at h2
  omega
theorem cnB_all {b : Nat → Bool} : ∀ {n}, cnB b n = n ↔ ∀ i, i < n → b i = true
  | 0 => ⟨fun _ i hi => absurd hi (Nat.not_lt_zero _), fun _ => rfl⟩
  | n + 1 => by
    have ih := cnB_all (b := b) (n := n)
    have hle := cnB_le b n
    show (if b n then cnB b n + 1 else cnB b n) = n + 1 ↔ _
    constructor
    · intro h i hi
      cases hb : b n with
      | true =>
        rw [hb, if_pos rfl] at h
        by_cases e : i = n
        · rw [e]; exact hb
        · exact ih.1 (by omega) i (by omega)
      | false =>
        rw [hb, if_neg (by decide)] at h
        omega
    · intro h
      rw [h n (by omega), if_pos rfl, ih.2 fun i hi => h i (by omega)]
theorem cnB_zero {b : Nat → Bool} : ∀ {n}, cnB b n = 0 ↔ ∀ i, i < n → b i = false
  | 0 => ⟨fun _ i hi => absurd hi (Nat.not_lt_zero _), fun _ => rfl⟩
  | n + 1 => by
    have ih := cnB_zero (b := b) (n := n)
    show (if b n then cnB b n + 1 else cnB b n) = 0 ↔ _
    constructor
    · intro h i hi
      cases hb : b n with
      | true =>
        rw [hb, if_pos rfl] at h
        omega
      | false =>
        rw [hb, if_neg (by decide)] at h
        by_cases e : i = n
        · rw [e]; exact hb
        · exact ih.1 h i (by omega)
    · intro h
      rw [h n (by omega), if_neg (by decide), ih.2 fun i hi => h i (by omega)]
theorem vd_eq {b b' : Nat → Bool} {n n' : Nat} (h0 : 0 < n) (h0' : 0 < n') (h : ∀ x, (∃ i, i < n ∧ b i = x) ↔ ∃ i, i < n' ∧ b' i = x) : vdR b n = verdict b' n' := by
  have hx : ∀ x, someB b' x n' = true ↔ ∃ i, i < n ∧ b i = x := fun x => by rw [someB_iff, h]
  have hf : ∀ x, someB b' x n' = false ↔ ∀ i, i < n → b i = !x := fun x => by
    constructor
    · intro hq i hi
      cases hb : b i <;> cases x <;> first | rfl | (have := (hx _).2 ⟨i, hi, hb⟩; rw [hq] at this; cases this)
    · intro hq
      cases hs : someB b' x n' with
      | false => rfl
      | true =>
        obtain ⟨i, hi, e⟩ := (hx x).1 hs
        rw [hq i hi] at e
        cases x <;> cases e
  unfold vdR
  by_cases h1 : cnB b n = n
  · rw [if_pos h1]
    exact (verdict_always.2 ((hf false).2 (cnB_all.1 h1))).symm
  · rw [if_neg h1]
    by_cases h2 : cnB b n = 0
    · rw [if_pos h2]
      exact ((verdict_never h0').2 ((hf true).2 (cnB_zero.1 h2))).symm
    · rw [if_neg h2]
      rcases vd_range b' n' with hv | hv | hv
      · exact absurd (cnB_all.2 ((hf false).1 (verdict_always.1 hv))) h1
      · exact absurd (cnB_zero.2 ((hf true).1 ((verdict_never h0').1 hv))) h2
      · exact hv.symm
theorem em_eq {y : YardD} (hc : y.check = 0) (ho : y.ownE true = 0) {k : Nat} (hk : k < y.nb) (w : Int) : vdR (fun i => y.eR ((y.clR (allI y.nc)).getD i f0) k w) (y.clR (allI y.nc)).length = verdict (fun i => y.emB k w (y.kept.getD i f0)) y.kept.length := by
  obtain ⟨hfit, _⟩ := y.fit_of_check hc
  have hkn := (YardD.own_some ho).2.1
  have hcn : y.clR (allI y.nc) ≠ [] := fun h => hkn ((cl_nil_iff hc).1 h)
  have hg : ∀ (L : List (Nat → Int)) j, (hj : j < L.length) → L.getD j f0 = L[j] := fun L j hj => by rw [List.getD_eq_getElem?_getD, List.getElem?_eq_getElem hj]; rfl
  have he : ∀ (f g : Nat → Int), f k = g k → 0 ≤ f k → y.eR f k w = y.emB k w g := fun f g h h0 => by
    unfold YardD.eR YardD.emB
    rw [decide_eq_true h0, h]; rfl
  have hr : ∀ g ∈ y.kept, 0 ≤ g k := fun g hg => by
    have h1 := (mem_allS.1 (mem_kept.1 hg).1).2.rng k (List.mem_range.2 hk)
    have h2 := hfit.beg k hk
    omega
  refine vd_eq (List.length_pos_iff.2 hcn) (List.length_pos_iff.2 hkn) fun x => ?_
  constructor
  · rintro ⟨i, hi, e⟩
    simp only [hg _ i hi] at e
    have hm := cl_kept hc (List.getElem_mem hi)
    obtain ⟨j, hj, ej⟩ := List.getElem_of_mem hm
    refine ⟨j, hj, ?_⟩
    simp only [hg _ j hj, ej]
    rw [← e]
    have h0 := hr _ hm
    rw [lessF_lt hk] at h0
    exact (he _ _ (lessF_lt hk).symm h0).symm
  · rintro ⟨j, hj, e⟩
    simp only [hg _ j hj] at e
    have hm := List.getElem_mem hj
    obtain ⟨f, hf, hfg⟩ := kept_cl hc hm
    obtain ⟨i, hi, ei⟩ := List.getElem_of_mem hf
    refine ⟨i, hi, ?_⟩
    simp only [hg _ i hi, ei]
    rw [← e]
    exact he _ _ (hfg k hk) (by rw [hfg k hk]; exact hr _ hm)
theorem clR_len {y : YardD} (hc : y.check = 0) (c : Int) : (y.clR c).length < 1000000 := by
  have h1 := pickS_len (fun i => decide (std.bin .and .i64 (y.rm (y.schR.getD i f0) y.nc) c = c)) (fun i => y.schR.getD i f0) y.schR.length
  have h2 := schR_len hc
  have h1 : (y.clR c).length ≤ y.schR.length := h1
  omega
theorem own_two {y : YardD} (hc : y.check = 0) : y.ownE false = 2 := by
  have ha : y.anyE false = 2 := by unfold YardD.anyE; rw [if_neg (by simp [hc]), if_pos rfl]
  unfold YardD.ownE
  rw [ha, if_pos (by decide)]
theorem cleanWeeks_ok (haw : Pure Try.prog 18 [] (.lit (.bool true))) (y : YardD) (K w : Int) : Pure Try.prog 4 [yardV y, iV K, iV w] (.lit (.bool true)) := by
  have e17 := thin_any y
  cases hT : y.thinB with
  | false =>
    rw [hT] at e17
    exact wk_not haw y K w e17
  | true =>
    rw [hT] at e17
    obtain ⟨s1, s2⟩ := thin_small hT
    have e20 := yard_ok y (by omega) (by omega)
    have e27 := weeks_ok y (by omega) (by omega) K
    have e28 := empty_ok y (by omega) (by omega) K w
    have e26 := sure_ok y (by omega) (by omega)
    have e24 := fault24_ok y (by omega) (by omega)
    by_cases hW : y.faultN = 0
    · have hc : y.check = 0 := (check_eq y).trans hW
      have h2 := own_two hc
      rw [hW] at e24
      rw [su_own hc] at e26
      have hsub : std.bin .sub .i64 (Int.ofNat y.nb) 1 = (y.nb : Int) - 1 := by
        show sub64 ((y.nb : Nat) : Int) 1 = _
        rw [sub64_in _ _ (by omega) (by omega)]
      have hB : inB K 0 (std.bin .sub .i64 (Int.ofNat y.nb) 1) = y.hasB K := by
        rw [hsub]
        unfold inB YardD.hasB
        rw [decide_eq_decide.2 (show K ≤ (y.nb : Int) - 1 ↔ K < y.nb by omega)]
      have hWk : inB w 0 y.last = y.hasWk w := rfl
      have e29a := in_ok K 0 (std.bin .sub .i64 (Int.ofNat y.nb) 1)
      have e29b := in_ok w 0 y.last
      rw [hB] at e29a
      rw [hWk] at e29b
      have hem : y.emR K w = (y.hasB K && y.hasWk w) := rfl
      cases hbb : y.hasB K with
      | false =>
        rw [hbb, Bool.false_and] at hem
        rw [hbb, h2] at e27
        have hv : y.wkV K = nl3 := by unfold YardD.wkV; rw [hbb, h2, if_neg (by decide)]
        rw [hv] at e27
        have hvv : y.emV K w = 0 := by unfold YardD.emV; rw [hem, h2, if_neg (by decide)]
        rw [hvv, hem, h2] at e28
        rw [hbb] at e29a
        cases hww : y.hasWk w with
        | false => rw [hww] at e29b; exact wk_bf haw y K w _ _ e17 e20 e27 e28 e26 e24 e29a e29b
        | true => rw [hww] at e29b; exact wk_bt haw y K w _ _ e17 e20 e27 e28 e26 e24 e29a e29b
      | true =>
        rw [hbb, Bool.true_and] at hem
        rw [hbb] at e27 e29a
        have hKr : 0 ≤ K ∧ K < (y.nb : Int) := by
          unfold YardD.hasB at hbb
          rw [Bool.and_eq_true, decide_eq_true_eq, decide_eq_true_eq] at hbb
          exact hbb
        obtain ⟨k, rfl⟩ := Int.eq_ofNat_of_zero_le hKr.1
        have hk : k < y.nb := by omega
        by_cases hU : y.ownE true = 0
        · have hv : y.wkV (k : Int) = zV (y.wkL (k : Int)) := by unfold YardD.wkV; rw [hbb, if_pos hU]
          rw [hv, hU] at e27
          have huv : y.suV = llV y.nb (y.clR (allI y.nc)) := if_pos (by rw [su_own hc]; exact hU)
          rw [huv, hU] at e26
          have e31 := refWeeks_ok y (y.fit_of_check hc).2.2.1 y.nb (y.clR (allI y.nc)) (k : Int) hKr.1 hKr.2 (clR_len hc _)
          rw [wk_eq hc hU hk] at e31
          have e30 := same_zV (wk_small (y.fit_of_check hc).1 hKr.1 hKr.2)
          cases hww : y.hasWk w with
          | false =>
            rw [hww] at hem e29b
            have hvv : y.emV (k : Int) w = 0 := by unfold YardD.emV; rw [hem, h2, if_neg (by decide)]
            rw [hvv, hem, h2] at e28
            exact wk_c0 haw y _ w _ _ _ e17 e20 e27 e28 e26 e24 e29a e29b e31 e30
          | true =>
            rw [hww] at hem e29b
            have e32 := refEmpty_ok y y.nb (y.clR (allI y.nc)) (k : Int) w hKr.1 hKr.2 hKr.2 (clR_len hc _)
            have hkt : (k : Int).toNat = k := rfl
            rw [hkt, em_eq hc hU hk w] at e32
            have hvv : y.emV (k : Int) w = verdict (fun i => y.emB k w (y.kept.getD i f0)) y.kept.length := by
              unfold YardD.emV
              rw [hem, if_pos hU, (YardD.own_some hU).1, hkt]
            rw [hvv, hem, hU] at e28
            exact wk_d0 haw y _ w _ _ _ _ e17 e20 e27 e28 e26 e24 e29a e29b e31 e30 e32
        · have hv : y.wkV (k : Int) = nl3 := by unfold YardD.wkV; rw [hbb, if_neg hU]
          rw [hv] at e27
          have huv : y.suV = nl3 := if_neg (by rw [su_own hc]; exact hU)
          rw [huv] at e26
          cases hww : y.hasWk w with
          | false =>
            rw [hww] at hem e29b
            have hvv : y.emV (k : Int) w = 0 := by unfold YardD.emV; rw [hem, h2, if_neg (by decide)]
            rw [hvv, hem, h2] at e28
            exact wk_cU haw y _ w _ hU e17 e20 e27 e28 e26 e24 e29a e29b
          | true =>
            rw [hww] at hem e29b
            have hvv : y.emV (k : Int) w = 0 := by unfold YardD.emV; rw [hem, if_neg hU]
            rw [hvv, hem] at e28
            exact wk_dU haw y _ w _ hU e17 e20 e27 e28 e26 e24 e29a e29b
    · have ho := fun B => (own_fault hW B).2
      have hv : y.wkV K = nl3 := by unfold YardD.wkV; rw [ho, if_neg hW]
      have hvv : y.emV K w = 0 := by unfold YardD.emV; rw [ho, if_neg hW]
      have hsu : y.suV = nl3 := if_neg (by rw [(su_fault hW).1]; exact hW)
      rw [hv, ho] at e27
      rw [hvv, ho] at e28
      rw [hsu, (su_fault hW).1] at e26
      exact wk_bad haw y K w _ hW e17 e20 e27 e28 e26 e24
end Go.Fz
