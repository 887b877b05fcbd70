/- Own work of the verifier of watercress: FzTr2. -/
import Derived.Below
import Derived.CallsIn
import Derived.Carry
import Derived.ChangeKeysEq
import Derived.ChangeSame
import Derived.Deep.Slices
import Derived.DeepKeys4
import Derived.JoinedCond
import Derived.Laws.AppendOwn
import Derived.Laws.Cells
import Derived.Laws.CopyRow
import Derived.Laws.Cover3
import Derived.Laws.Entries
import Derived.Laws.NewFold
import Derived.Laws.Sem
import Derived.Laws.Small
import Derived.Laws.StructEq
import Derived.Laws.Tables
import Derived.Laws.World
import Derived.Lib.SmallJoins
import Derived.Maps.Keyed
import Derived.Maps.RangeRun
import Derived.OpenShut
import Derived.OrdersHeld
import Derived.OrdersIn
import Derived.ProofKit
import Derived.RangeFuncLeaves
import Derived.RangeFuncRecord
import Derived.Shelf.Abstract
import Derived.WalkKit
import Derived.WideKeyArgs
import Derived.Test.YtcjekdfncnmbfaaNm0
import Derived.Test.YtcjekdfncnmbfaaNa10
import Derived.Test.YtcjekdfncnmbfaaNa11
import Derived.Test.YtcjekdfncnmbfaaNa13
import Derived.Test.YtcjekdfncnmbfaaNa16
import Derived.Test.YtcjekdfncnmbfaaNa14
import Derived.Test.YtcjekdfncnmbfaaNa18
import Derived.Test.YtcjekdfncnmbfaaNa15
import Derived.Test.YtcjekdfncnmbfaaNa19
import Derived.Test.YtcjekdfncnmbfaaNa20
import Derived.Test.YtcjekdfncnmbfaaNa21
import Derived.Test.YtcjekdfncnmbfaaNa22
import Derived.Test.YtcjekdfncnmbfaaNa12
import Derived.Test.YtcjekdfncnmbfaaNa17
import Derived.Test.YtcjekdfncnmbfaaNm2
import Derived.Test.YtcjekdfncnmbfaaNm1
import Derived.Test.YtcjekdfncnmbfaaNa0
import Derived.Test.YtcjekdfncnmbfaaNa1
import Derived.Test.YtcjekdfncnmbfaaNa2
import Derived.Test.YtcjekdfncnmbfaaNa3
import Derived.Test.YtcjekdfncnmbfaaNa4
import Derived.Test.YtcjekdfncnmbfaaNa5
import Derived.Test.YtcjekdfncnmbfaaNa6
import Derived.Test.YtcjekdfncnmbfaaNa7
import Derived.Test.YtcjekdfncnmbfaaNa8
import Derived.Test.YtcjekdfncnmbfaaNa9
import Derived.Test.YtcjekdfncnmbfaaProg
import Derived.Test.YtcjekdfncnmbfaaRows
set_option linter.unusedVariables false
set_option linter.unusedSimpArgs false
set_option linter.unusedVariables false
namespace Go.Fz
open Go.Proofs
set_option maxRecDepth 100000
theorem rem_many {m M : Int} (m0 : 0 ≤ m) (m1 : m ≤ 65535) (h0 : 1 ≤ M) (h1 : M ≤ 4000) : 0 ≤ std.bin .rem .i64 (std.conv .i64 m) M ∧ std.bin .rem .i64 (std.conv .i64 m) M < M := by
  have e : std.conv .i64 m = m := by
    show wrp .i64 m = m
    exact wrp_in (by simp only [IntKind.lo]; omega) (by simp only [IntKind.hi]; omega)
  rw [e]
  exact tmod_in m0 h0
theorem prf_none {y : YardD} (hc : y.check = 0) (hs : y.allS ≠ []) : y.prfV = (nl3, 7) := by
  have hn := (y.fit_of_check hc).1.nb
  rcases prf_cases hc with ⟨h, _⟩ | ⟨pre, l, post, _, hE, _, hl⟩
  · exact h
  · exfalso
    have hm : l ∈ risL y.nb := by rw [hE]; simp
    have hr := ris_ok hn hm
    have := y.can_sub hr.1 List.pairwise_lt_range (fun p hp => List.mem_range.2 (hr.2 p hp)) (allS_can.2 hs)
    rw [this] at hl
    cases hl
theorem prf_some {y : YardD} (hc : y.check = 0) (hs : y.allS = []) : ∃ l, y.prfV = (lsV l, 0) ∧ l ∈ risL y.nb ∧ y.canL l = false := by
  have hn := (y.fit_of_check hc).1.nb
  rcases prf_cases hc with ⟨_, h⟩ | ⟨pre, l, post, h, hE, _, hl⟩
  · exact absurd hs (allS_can.1 (h _ (rng_ris6 ⟨y.nb, by omega⟩)))
  · exact ⟨l, h, by rw [hE]; simp, hl⟩
theorem all6_rng : ∀ n : Fin 7, 0 ≤ allI n.1 ∧ allI n.1 < 64 := by decide +kernel
theorem ris_hd5 : ∀ n : Fin 6, (risL n.1).head? = some [] := by decide +kernel
theorem lve_nil {y : YardD} (hc : y.check = 0) {g : Nat → Int} (hg : g ∈ y.kept) : y.lveV = lsV [] ∧ y.anyE true = 0 := by
  have h5 := (y.fit_of_check hc).2.2.2.2.2.1
  obtain ⟨h1, h2⟩ := mem_kept.1 hg
  have hs : y.allS ≠ [] := fun h => by rw [h] at h1; cases h1
  have ha := (any_sees hc).2 hs
  refine ⟨?_, ha⟩
  have hl : y.lvB y.allS [] = true := lvB_iff.2 ⟨g, h1, fun p hp => h2 p (mem_coL.1 hp).1⟩
  unfold YardD.lveV
  rw [if_pos ha]
  have hh := ris_hd5 ⟨y.nc, by omega⟩
  simp only at hh
  cases hr : risL y.nc with
  | nil => rw [hr] at hh; cases hh
  | cons a t =>
    rw [hr] at hh
    have : a = [] := by simpa using hh
    rw [this, List.find?_cons, hl]
theorem em_one {y : YardD} {g : Nat → Int} (hg : g ∈ y.kept) (k : Nat) (w : Int) : (verdict (fun i => y.emB k w (y.kept.getD i f0)) y.kept.length = 1 → y.emB k w g = true) ∧ (verdict (fun i => y.emB k w (y.kept.getD i f0)) y.kept.length = 2 → y.emB k w g = false) := by
  obtain ⟨i, hi, ei⟩ := List.getElem_of_mem hg
  have hp : 0 < y.kept.length := by omega
  have hb : y.emB k w (y.kept.getD i f0) = y.emB k w g := by rw [List.getD_eq_getElem?_getD, List.getElem?_eq_getElem hi]; exact congrArg _ ei
  constructor
  · intro h
    have h2 := verdict_always.1 h
    cases hx : y.emB k w g with
    | true => rfl
    | false =>
      rw [someB_iff.2 ⟨i, hi, hb.trans hx⟩] at h2
      cases h2
  · intro h
    have h2 := (verdict_never hp).1 h
    cases hx : y.emB k w g with
    | false => rfl
    | true =>
      rw [someB_iff.2 ⟨i, hi, hb.trans hx⟩] at h2
      cases h2
theorem cleanTruth_ok (haw : Pure Try.prog 18 [] (.lit (.bool true))) (y : YardD) (m b v : Int) (m0 : 0 ≤ m) (m1 : m ≤ 65535) (b0 : 0 ≤ b) (b1 : b ≤ 255) (v0 : 0 ≤ v) (v1 : v ≤ 255) : Pure Try.prog 7 [yardV y, .lit (.int .u16 m), .lit (.int .u8 b), .lit (.int .u8 v)] (.lit (.bool true)) := by
  have e45 := ready_any y
  cases hR : y.readyB with
  | false =>
    rw [hR] at e45
    exact tr_not haw y m b v e45
  | true =>
    rw [hR] at e45
    have hc := ready_check hR
    obtain ⟨hfit, l0, l9, _, _, h5, _⟩ := y.fit_of_check hc
    have hn := hfit.nb
    have e20 := yard_ok y (by omega) (by omega)
    have e47 := all_ok y (by omega)
    have e48 := many_ok y (allI y.nb) (by omega)
    obtain ⟨M, hM⟩ : ∃ M, mnB y.blo y.bhi (allI y.nb) y.nb = M := ⟨_, rfl⟩
    have hMr : 1 ≤ M ∧ M ≤ 2000 := by
      obtain ⟨q1, q2⟩ := many_small hc (allI y.nb)
      have q3 := (pS_pos (T := bitB (allI y.nb)) (szB_pos hfit) y.nb (Nat.le_refl _)).1
      omega
    rw [hM] at e48
    obtain ⟨n0, n1⟩ := rem_many m0 m1 hMr.1 (by omega)
    have ha := all6_rng ⟨y.nb, by omega⟩
    have e46 := nth_ok y hfit (allI y.nb) (std.bin .rem .i64 (std.conv .i64 m) M) ha.1 ha.2
    obtain ⟨g, hg⟩ : ∃ g, y.nF (allI y.nb) (std.bin .rem .i64 (std.conv .i64 m) M) = g := ⟨_, rfl⟩
    have hgr : ∀ i, i < y.nb → y.blo i ≤ g i ∧ g i ≤ y.bhi i := fun i hi => by
      rw [← hg]
      exact nF_rng hfit n0 (Int.le_of_lt (Int.lt_of_lt_of_le n1 (by omega))) hi (bit_full hn hi)
    rw [hg] at e46
    have e25 := isSch_ok hc y.nb false g (by omega)
    have e19 := show_ok y (by omega) (by omega)
    have e34 := proof_ok y (by omega) (by omega)
    have e22 := list22_ok y.nb false g (by omega)
    have e21 := proveSch_ok y (by omega) (by omega) y.nb false g (by omega)
    rw [ps_isS hc] at e21
    refine tr_pre y m b v g _ M _ (fun hM0 => by rw [hM0] at hMr; omega) e45 e47 e48 e46 e25 fun gg h => ?_
    have hno : y.kept = [] → y.isS y.nb g = false := fun hk => by
      cases hq : y.isS y.nb g with
      | false => rfl
      | true =>
        have := ((isS_iff hc).1 hq).2
        rw [hk] at this
        cases this
    rcases own_range hc with ⟨ho, hk⟩ | ho | ho
    · have hs : y.allS ≠ [] := fun h => hk (by unfold YardD.kept kpS; rw [h]; rfl)
      have hsv : y.showV = intsV y.nb false (y.firstS true) := if_pos ho
      rw [hsv, ho] at e19
      rw [prf_none hc hs] at e34
      have hfm := first_mem ho
      have hfs := (isS_iff hc).2 (⟨rfl, by rw [kept_less hfm]; exact hfm⟩ : y.nb = y.nb ∧ lessF y.nb (y.firstS true) ∈ y.kept)
      have e25b := isSch_ok hc y.nb false (y.firstS true) (by omega)
      have e22b := list22_ok y.nb false (y.firstS true) (by omega)
      have e21b := proveSch_ok y (by omega) (by omega) y.nb false (y.firstS true) (by omega)
      rw [ps_isS hc, hfs] at e21b
      rw [hfs] at e25b
      cases hB : y.isS y.nb g with
      | false =>
        rw [hB] at h e21
        exact tr_not2 haw y m b v g _ e20 e19 e34 e22 e21 e25b e22b e21b gg h
      | true =>
        rw [hB] at h e21
        by_cases hz : y.nb = 0
        · exact tr_no haw y m b v g _ hz e20 e19 e34 e22 e21 e25b e22b e21b gg h
        · refine tr_yes y m b v g _ hz e20 e19 e34 e22 e21 e25b e22b e21b (fun gg h => ?_) gg h
          refine tr_kw y m b v g (by omega) ⟨l0, l9⟩ (fun gg h => ?_) gg h
          have hK := rem_rng b0 b1 (show 0 < y.nb by omega) hn
          obtain ⟨k, hk'⟩ : ∃ k : Nat, std.bin .rem .i64 (std.conv .i64 b) (y.nb : Int) = (k : Int) := ⟨_, (Int.toNat_of_nonneg hK.1).symm⟩
          have hkn : k < y.nb := by
            have := hK.2
            rw [hk'] at this
            exact Int.ofNat_lt.1 this
          obtain ⟨w, hw⟩ : ∃ w, std.bin .rem .i64 (std.conv .i64 v) (std.bin .add .i64 y.last 1) = w := ⟨_, rfl⟩
          have hwr := week_rng v0 v1 l0 l9
          rw [hw] at hwr
          have h : AllP (fun p => gg p.1 = p.2) [(4, .ptr 0 0), (9, intsV y.nb false g), (15, iV (Int.ofNat k)), (16, iV w)] := by
            obtain ⟨a1, a2, a3, a4, _⟩ := h
            refine ⟨a1, a2, ?_, ?_, trivial⟩
            · exact a3.trans (congrArg iV hk')
            · exact a4.trans (congrArg iV hw)
          have hgk := ((isS_iff hc).1 hB).2
          obtain ⟨na, fa, hna, e27, hhas⟩ := wk_has hc hkn
          rw [ho] at e27
          have e50 := has50_ok na false fa (g k) hna
          rw [(hhas (g k)).2 ⟨_, hgk, lessF_lt hkn⟩] at e50
          have e28 := empty_sees hc hk (K := (k : Int)) (w := w) (Int.natCast_nonneg k) (Int.ofNat_lt.2 hkn) hwr.1 hwr.2
          have e41 := leave_ok y (by omega) (by omega)
          obtain ⟨c1, c2⟩ := lve_nil hc hgk
          rw [c1, c2] at e41
          have e49 := isEmpty_ok y y.nb false g (k : Int) w (Int.natCast_nonneg k) (Int.ofNat_lt.2 hkn) (Int.ofNat_lt.2 hkn)
          have hee : y.eR g k w = y.emB k w (lessF y.nb g) := by
            have hr := hgr k hkn
            have hf := hfit.beg k hkn
            unfold YardD.eR YardD.emB
            rw [decide_eq_true (by omega), lessF_lt hkn]; rfl
          obtain ⟨m1', m2'⟩ := em_one hgk k w
          have ekn : ((k : Int)).toNat = k := rfl
          rw [ekn] at e28 e49
          rw [hee] at e49
          rcases vd_range (fun i => y.emB k w (y.kept.getD i f0)) y.kept.length with hv | hv | hv
          · rw [hv] at e28
            rw [m1' hv] at e49
            exact tr_enda haw y g k hkn w true _ _ e20 e27 e28 e41 e49 e50 (in_ok 1 1 3) gg h
          · rw [hv] at e28
            rw [m2' hv] at e49
            exact tr_endn haw y g k hkn w false _ _ e20 e27 e28 e41 e49 e50 (in_ok 2 1 3) gg h
          · rw [hv] at e28
            exact tr_ends haw y g k hkn w _ _ _ e20 e27 e28 e41 e49 e50 (in_ok 3 1 3) gg h
    · have hk := kept_none (.inl ho) hc
      have hs : y.allS ≠ [] := fun h => by
        have := (any_sees hc).1 h
        unfold YardD.ownE at ho
        rw [this] at ho
        simp at ho
      have hsv : y.showV = nl3 := if_neg (by omega)
      rw [hsv, ho] at e19
      rw [prf_none hc hs] at e34
      rw [hno hk] at h e21
      exact tr_nine haw y m b v g e20 e19 e34 e22 e21 gg h
    · have hk := kept_none (.inr ho) hc
      have hs : y.allS = [] := by
        by_cases hs : y.allS = []
        · exact hs
        · exfalso
          unfold YardD.ownE at ho
          rw [(any_sees hc).2 hs, if_neg (by simp), if_pos hk] at ho
          cases ho
      have hsv : y.showV = nl3 := if_neg (by omega)
      rw [hsv, ho] at e19
      obtain ⟨l, hl, hm, hcl⟩ := prf_some hc hs
      rw [hl] at e34
      have hr := ris_ok hn hm
      have e35 := prove_ls hc hr.1 hr.2 (by have := ris_len6 hn hm; omega)
      rw [hcl] at e35
      rw [hno hk] at h e21
      exact tr_ten haw y m b v g _ e35 e20 e19 e34 e22 e21 gg h
end Go.Fz
