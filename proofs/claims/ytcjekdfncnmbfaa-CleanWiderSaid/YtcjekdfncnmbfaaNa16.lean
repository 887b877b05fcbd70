/- Own work of the verifier of watercress: FzCl19, FzCl20, FzCl21, FzCl22, FzCl23, FzCl24, FzCl25, FzCl26, FzCl27. -/
import Derived.Test.YtcjekdfncnmbfaaNa13
import Derived.Test.YtcjekdfncnmbfaaNa15
set_option linter.unusedVariables false
set_option linter.unusedSimpArgs false
set_option linter.unusedVariables false
namespace Go.Fz
open Go.Proofs
set_option maxRecDepth 100000
def natC : Nat → Nat → AV := intC fun j => (j : Int)
theorem natC_below (i k : Nat) : Below 0 (natC i k) := Below.lit
set_option maxHeartbeats 8000000 in
theorem numbers_ok (y : YardD) (hn : y.nb < 1000) : Pure Try.prog 79 [yardV y] (.isl y.nb 1 false natC) := by
  obtain ⟨O, hO⟩ : ∃ O : Ar, O = std := ⟨_, rfl⟩
  have hnat : ∀ i : Nat, O.nat (Int.ofNat i) = i := fun i => by subst hO; rfl
  refine pure_of_body tok 3 Try.func79 en79 rfl ⟨yardV_below y, trivial⟩ (Below.isl fun i k _ _ => natC_below i k) ?_
  refine SW.seqRun tok hO (by cbv <;> rfl) (by trivial) ?_
  refine SW.seqRun tok hO (by cbv <;> rfl) (by trivial) ?_
  refine SW.seq ?_
  refine SW.seqRun tok hO (by cbv <;> rfl) (by trivial) ?_
  refine (SW.block (SW.loopR (fun i : Nat => ⟨⟨17, getT [(3, slG 1 1 i), (7, iV y.nb), (8, iV i)]⟩, []⟩) (fun i => ⟨[(0, .cells none false (yardC y))] ++ objG 1 1 natC i, 2⟩) (fun i => y.nb - i) (fun i => i ≤ y.nb) 0 (Nat.zero_le _) (ren1 1 1) ?_ fun i hi => ?_))
  · exact WeakR.up rfl rfl (by simp) (Nat.le_refl _) (.inl rfl) (by show 1 ≤ 2; omega) ⟨RenV.closed Below.lit, RenV.closed Below.lit, RenV.closed Below.lit, trivial⟩ ⟨⟨by omega, _, rfl, .cells (RenVs.closed (yardC_below y)), .inr rfl⟩, trivial⟩ (fun p hp => by cases hp)
  cases i with
  | zero =>
    refine SW.seqRun tok hO (by cbv <;> rfl) (by trivial) ?_
    refine SW.seq (SW.condS (by cbv <;> rfl) (fun h => SW.skip ?_) (fun h => ?_))
    · have hlt : 0 < y.nb := by subst hO; simpa [std] using h
      refine SW.seq (SW.block ?_)
      refine SW.seqRun tok hO (by cbv <;> rfl) (by trivial) ?_
      refine SW.runN tok hO 3 (by cbv <;> rfl) (by trivial) ?_
      refine OpsW.appNil tok (by cbv <;> rfl) (by rfl) (by kernel_rfl) (by rfl) (by rfl) ?_
      refine OpsW.run tok hO (by cbv <;> rfl) (by trivial) ?_
      refine SW.run tok hO (by cbv <;> rfl) (by trivial) ?_
      refine ⟨1, by omega, by omega, ren1 1 3, ?_⟩
      refine WeakR.up rfl rfl (by simp) (Nat.le_refl _) (.inr (by omega)) (by show 1 ≤ 2; omega) ⟨RenV.sl (by omega), RenV.closed Below.lit, RenV.inc hO (by omega), trivial⟩ ⟨⟨by omega, _, rfl, .cells (RenVs.closed (yardC_below y)), .inr rfl⟩, trivial⟩ (fun p hp => ?_)
      obtain rfl := objG_mem hp
      exact ⟨by omega, _, rfl, .cells (RenVs.of_eq (by rfl) (flatG_below natC_below 1)), .inl rfl⟩
    · have hz : y.nb = 0 := by
        have : y.nb ≤ 0 := by subst hO; simpa [std] using h
        omega
      refine SW.exit ?_
      refine SW.seqRun tok hO (by cbv <;> rfl) (by trivial) ?_
      refine SW.ret ⟨_, _, rfl, rfl, ?_⟩
      rw [hz]; exact Eqv.nil
  | succ i =>
    obtain ⟨G, hG⟩ : ∃ G, G = flatG 1 natC (i + 1) := ⟨_, rfl⟩
    have hGo : objG 1 1 natC (i + 1) = [(1, .cells none false G)] := by rw [hG]; rfl
    show SW _ _ _ _ _ ⟨[(0, .cells none false (yardC y))] ++ objG 1 1 natC (i + 1), 2⟩
    rw [hGo]
    refine SW.seqRun tok hO (by cbv <;> rfl) (by trivial) ?_
    refine SW.seq (SW.condS (by cbv <;> rfl) (fun h => SW.skip ?_) (fun h => ?_))
    · have hlt : i + 1 < y.nb := by
        have : ((i + 1 : Nat) : Int) < (y.nb : Int) := by subst hO; simpa [std] using h
        omega
      refine SW.seq (SW.block ?_)
      refine SW.seqRun tok hO (by cbv <;> rfl) (by trivial) ?_
      refine SW.runN tok hO 3 (by cbv <;> rfl) (by trivial) ?_
      refine OpsW.appOne (g := natC) tok (by cbv <;> rfl) (by rfl) (by rfl) hG (by kernel_rfl) (by rfl) (by rfl) (by omega) fun G' hG' => ?_
      refine OpsW.run tok hO (by cbv <;> rfl) (by trivial) ?_
      refine SW.run tok hO (by cbv <;> rfl) (by trivial) ?_
      refine ⟨i + 1 + 1, by omega, by omega, ren1 1 3, ?_⟩
      refine WeakR.up rfl rfl (by simp) (Nat.le_refl _) (.inr (by omega)) (by show 1 ≤ 2; omega) ⟨RenV.sl (by omega), RenV.closed Below.lit, RenV.inc hO (by omega), trivial⟩ ⟨⟨by omega, _, rfl, .cells (RenVs.closed (yardC_below y)), .inr rfl⟩, trivial⟩ (fun p hp => ?_)
      obtain rfl := objG_mem hp
      exact ⟨by omega, _, rfl, .cells (RenVs.of_eq (hG'.trans rfl) (flatG_below natC_below (i + 1 + 1))), .inl rfl⟩
    · have hz : y.nb = i + 1 := by
        have : (y.nb : Int) ≤ ((i + 1 : Nat) : Int) := by subst hO; simpa [std] using h
        omega
      have hlG : (i + 1) * 1 ≤ G.length := by rw [hG, flatG_length]; omega
      refine SW.exit ?_
      refine SW.seqRun tok hO (by cbv <;> rfl) (by trivial) ?_
      refine SW.ret ⟨_, _, rfl, rfl, ?_⟩
      show Eqv (frz _ _ 3 (.sl 1 0 (i + 1) 1 false)) (.isl y.nb 1 false natC)
      rw [hz, frz_slE (fm := none) (G := G) rfl rfl hlG, hG]
      exact Eqv.isl rfl fun i' k hi' hk => Eqv.of (frz_flat hi' hk rfl)
end Go.Fz
set_option linter.unusedVariables false
namespace Go.Fz
open Go.Proofs
set_option maxRecDepth 100000
set_option maxHeartbeats 4000000 in
theorem each102S (n : Nat) (ex : Bool) (fl : Nat → Int) (st : St) (g0 : FuncId) (he : Enters Try.prog g0) (first caps : List AV) (p : Nat → Bool) (hn : n < 100000)
    (hp : ∀ i, i < n → CallW Try.prog g0 (first ++ [iV (i : Int), iV (fl i)] ++ caps) st (fun v st' => v = .sb (p i) ∧ st' = st)) :
    CallW Try.prog 102 [intsV n ex fl, .fn (.func g0) first caps] st (fun v st' => v = .lit (.bool (allN n p)) ∧ st' = st) := by
  obtain ⟨O, hO⟩ : ∃ O : Ar, O = std := ⟨_, rfl⟩
  have hnat : ∀ i : Nat, O.nat (Int.ofNat i) = i := fun i => by subst hO; rfl
  refine callW_of_body tok Try.func102 rfl ?_
  refine SW.seqRun tok hO (by cbv <;> rfl) (by trivial) ?_
  refine SW.seq ?_
  refine SW.seqRun tok hO (by cbv <;> rfl) (by trivial) ?_
  refine (SW.block (SW.loop (fun k f st' => ∃ (g : Nat → AV) (c : Nat), f = ⟨⟨20, g⟩, []⟩ ∧ AllP (fun p => g p.1 = p.2) [(1, .fn (.func g0) first caps), (7, intsV n ex fl), (8, iV n), (9, iV c)] ∧ st' = st ∧ (∀ j, j < c → p j = true) ∧ c ≤ n ∧ k = n - c) (n - 0) ?_ ?_))
  · exact ⟨_, 0, rfl, ⟨rfl, rfl, rfl, rfl, trivial⟩, rfl, (fun j hj => absurd hj (Nat.not_lt_zero j)), Nat.zero_le _, rfl⟩
  · rintro k f st' ⟨g, c, rfl, ⟨g1, g7, g8, g9, _⟩, rfl, hall, hle, rfl⟩
    simp only at g1 g7 g8 g9
    rw [← updT_self g1, ← updT_self g7, ← updT_self g8, ← updT_self g9]
    refine SW.seqRun tok hO (by cbv <;> rfl) (by trivial) ?_
    refine SW.seq (SW.condS (by cbv <;> rfl) (fun h3 => SW.skip ?_) (fun h3 => SW.exit ?_))
    · have hlt : c < n := by subst hO; simpa [std] using h3
      refine SW.seq (SW.block ?_)
      refine SW.seqRun tok hO (by cbv <;> rfl) ?_ ?_
      · exact ⟨Int.natCast_nonneg c, Int.ofNat_lt.2 hlt⟩
      have hc := hp c hlt
      obtain ⟨B, hB⟩ : ∃ B, p c = B := ⟨_, rfl⟩
      rw [hB] at hc
      rw [show fl c = fl (O.nat (Int.ofNat c)) by rw [hnat]] at hc
      refine SW.seq (SW.runN tok hO 3 (by cbv <;> rfl) (by trivial) ?_)
      refine OpsW.callS he hc (by cbv <;> rfl) fun r st'' hk => ?_
      obtain ⟨rfl, rfl⟩ := hk
      refine OpsW.run tok hO (by cbv <;> rfl) (by trivial) ?_
      refine SW.condS (by cbv <;> rfl) (fun h4 => ?_) (fun h4 => SW.skip ?_)
      · have hBf : B = false := by subst hO; simpa [std] using h4
        refine SW.seqRun tok hO (by cbv <;> rfl) (by trivial) ?_
        exact SW.ret ⟨_, _, rfl, rfl, by rw [allN_false hlt (hB.trans hBf)]; rfl, rfl⟩
      · have hBt : B = true := by subst hO; simpa [std] using h4
        refine SW.run tok hO (by cbv <;> rfl) (by trivial) ?_
        refine ⟨n - (c + 1), by omega, _, c + 1, rfl, ⟨rfl, rfl, rfl, inc_ok hO (by omega), trivial⟩, rfl, fun j hj => ?_, by omega, rfl⟩
        rcases Nat.lt_succ_iff_lt_or_eq.1 hj with hj | rfl
        · exact hall j hj
        · exact hB.trans hBt
    · have hge : n ≤ c := by subst hO; simpa [std] using h3
      refine SW.seqRun tok hO (by cbv <;> rfl) (by trivial) ?_
      exact SW.ret ⟨_, _, rfl, rfl, by rw [allN_true fun j hj => hall j (by omega)]; rfl, rfl⟩
theorem CallW.eqv {P : Program} {g : FuncId} {args : List AV} {st : St} {r : AV} {k : St → Prop} (h : CallW P g args st (fun v st' => Eqv v r ∧ k st')) : CallW P g args st (fun v st' => v = r ∧ k st') :=
  fun φ w cargs n h1 h2 => (h φ w cargs n h1 h2).mono fun _ _ ⟨v, cv, st', φ', e, ⟨hv, hk⟩, hvr, rest⟩ => ⟨r, cv, st', φ', e, ⟨rfl, hk⟩, hv _ _ hvr, rest⟩
def YardD.isB (y : YardD) (fl : Nat → Int) (i : Nat) : Bool := y.hasB (fl i) && (decide (i = 0) || decide (fl (i - 1) < fl i))
set_option maxHeartbeats 4000000 in
theorem isB103 (y : YardD) (n : Nat) (ex : Bool) (fl : Nat → Int) (hn : n < 100000) (i : Nat) (hi : i < n) :
    CallW Try.prog 103 [iV (i : Int), iV (fl i), .ptr 0 0, .ptr 1 0] ⟨[(1, .cells none false [intsV n ex fl]), (0, .cells none false (yardC y))], 2⟩ (fun v st' => v = .sb (y.isB fl i) ∧ st' = ⟨[(1, .cells none false [intsV n ex fl]), (0, .cells none false (yardC y))], 2⟩) := by
  obtain ⟨O, hO⟩ : ∃ O : Ar, O = std := ⟨_, rfl⟩
  have e1 := hasBed_ok y (fl i)
  have hq : y.isB fl i = (y.hasB (fl i) && (decide (i = 0) || decide (fl (i - 1) < fl i))) := rfl
  generalize y.isB fl i = Q at hq ⊢
  generalize y.hasB (fl i) = B at e1 hq
  obtain ⟨x, hx⟩ : ∃ x, fl i = x := ⟨_, rfl⟩
  rw [hx] at e1 hq ⊢
  obtain ⟨ii, hii⟩ : ∃ ii : Int, (i : Int) = ii := ⟨_, rfl⟩
  rw [hii]
  refine CallW.eqv ?_
  refine callW_of_body tok Try.func103 rfl ?_
  refine SW.seqRun tok hO (by cbv <;> rfl) (by trivial) ?_
  refine SW.seqRun tok hO (by cbv <;> rfl) (by trivial) ?_
  refine OpsW.callP e1 (by cbv <;> rfl) ?_
  refine OpsW.run tok hO (by cbv <;> rfl) (by trivial) ?_
  refine OpsW.splitG (by cbv <;> rfl) (fun h1 => ?_) (fun h1 => ?_) <;> refine OpsW.run tok hO (by cbv <;> rfl) (by trivial) ?_
  · refine OpsW.splitG (by cbv <;> rfl) (fun h2 => ?_) (fun h2 => ?_)
    · refine OpsW.run tok hO (by cbv <;> rfl) (by trivial) ?_
      have : i = 0 := by
        have : ii = 0 := by subst hO; simpa [std] using h2
        omega
      refine SW.ret ⟨_, _, rfl, rfl, Eqv.bool ?_, rfl⟩
      rw [hq, h1, this]; rfl
    · have h0 : i ≠ 0 := fun e => by
        have : ii = 0 := by omega
        subst hO; simp [std, this] at h2
      have hsub : O.bin .sub .i64 ii 1 = ii - 1 := by
        subst hO
        show sub64 ii 1 = _
        rw [sub64_in _ _ (by omega) (by omega)]
      refine OpsW.run tok hO (by cbv <;> rfl) ?_ ?_
      · have : 0 ≤ O.bin .sub .i64 ii 1 ∧ O.bin .sub .i64 ii 1 < (n : Int) := by rw [hsub]; omega
        exact this
      refine SW.ret ⟨_, _, rfl, rfl, Eqv.sb (Bool.eq_iff_iff.2 ?_), rfl⟩
      have hni : O.nat (O.bin .sub .i64 ii 1) = i - 1 := by
        rw [hsub, ← hii]
        subst hO
        show ((i : Int) - 1).toNat = i - 1
        omega
      show O.cmp .lss (fl (O.nat (O.bin .sub .i64 ii 1))) x = true ↔ _
      rw [hni, hq, h1]
      subst hO
      simp [std, h0]
  · refine SW.ret ⟨_, _, rfl, rfl, Eqv.bool ?_, rfl⟩
    rw [hq, h1]; rfl
set_option maxHeartbeats 4000000 in
theorem areBeds_ok (y : YardD) (n : Nat) (ex : Bool) (fl : Nat → Int) (hn : n < 100000) : Pure Try.prog 81 [yardV y, intsV n ex fl] (.sb (allN n (y.isB fl))) := by
  obtain ⟨O, hO⟩ : ∃ O : Ar, O = std := ⟨_, rfl⟩
  have he := each102S n ex fl ⟨[(1, .cells none false [intsV n ex fl]), (0, .cells none false (yardC y))], 2⟩ 103 en103 [] [.ptr 0 0, .ptr 1 0] (y.isB fl) hn (fun i hi => isB103 y n ex fl hn i hi)
  generalize allN n (y.isB fl) = A at he ⊢
  refine pure_of_body tok 3 Try.func81 en81 rfl ⟨yardV_below y, intsV_below n ex fl, trivial⟩ Below.sb ?_
  refine SW.seqRun tok hO (by cbv <;> rfl) (by trivial) ?_
  refine SW.seqRun tok hO (by cbv <;> rfl) (by trivial) ?_
  refine OpsW.callS en102 he (by cbv <;> rfl) fun r st' hk => ?_
  obtain ⟨rfl, rfl⟩ := hk
  refine OpsW.run tok hO (by cbv <;> rfl) (by trivial) ?_
  exact SW.ret ⟨_, _, rfl, rfl, Eqv.bool rfl⟩
end Go.Fz
set_option linter.unusedVariables false
namespace Go.Fz
open Go.Proofs
set_option maxRecDepth 100000
theorem YardD.fit_of_check {y : YardD} (h : y.check = 0) : y.Fit ∧ 0 ≤ y.last ∧ y.last ≤ 9 ∧ 1 ≤ y.hands ∧ y.hands ≤ 3 ∧ y.nc ≤ 5 ∧ (∀ i, i < y.nc → (0 ≤ y.cb i ∧ y.cb i < y.nb) ∧ 0 ≤ y.clo i ∧ y.clo i ≤ y.chi i ∧ y.chi i ≤ y.last) := by
  have hl : y.long = false := by
    cases hl : y.long with
    | false => rfl
    | true => unfold YardD.check at h; rw [hl] at h; cases h
  have hv : y.validB = true := by
    cases hv : y.validB with
    | true => rfl
    | false => unfold YardD.check at h; rw [hl, hv] at h; cases h
  simp only [YardD.long, Bool.or_eq_false_iff, decide_eq_false_iff_not] at hl
  simp only [YardD.validB, Bool.and_eq_true, decide_eq_true_eq, allN] at hv
  obtain ⟨⟨⟨v1, v2⟩, v3⟩, v4⟩ := hv
  refine ⟨⟨by omega, fun b hb => ?_, fun b hb => ?_⟩, v1, by omega, v2, by omega, by omega, fun i hi => ?_⟩
  · have := v3 b hb
    simp only [YardD.bedOk, inB, Bool.and_eq_true, decide_eq_true_eq] at this
    exact this.1
  · have := v3 b hb
    simp only [YardD.bedOk, withinB, Bool.and_eq_true, decide_eq_true_eq] at this
    omega
  · have := v4 i hi
    simp only [YardD.clmOk, YardD.hasB, withinB, Bool.and_eq_true, decide_eq_true_eq] at this
    exact ⟨this.1, this.2.1.1, this.2.1.2, this.2.2⟩
def blL (n : Nat) (fl : Nat → Int) : List Nat := (List.range n).map fun i => (fl i).toNat
theorem blL_len (n : Nat) (fl : Nat → Int) : (blL n fl).length = n := by simp [blL]
theorem blL_get {n : Nat} {fl : Nat → Int} {i : Nat} (hi : i < n) : (blL n fl).getD i 0 = (fl i).toNat := by
  unfold blL
  rw [List.getD_eq_getElem?_getD, List.getElem?_map, List.getElem?_range hi]
  rfl
theorem beds_ris {y : YardD} {n : Nat} {fl : Nat → Int} (h : allN n (y.isB fl) = true) : (∀ i, i < n → 0 ≤ fl i ∧ fl i < y.nb) ∧ (∀ i j, i < j → j < n → fl i < fl j) := by
  have hh : ∀ i, i < n → y.isB fl i = true := of_decide_eq_true h
  have h1 : ∀ i, i < n → 0 ≤ fl i ∧ fl i < y.nb := fun i hi => by
    have := hh i hi
    simp only [YardD.isB, YardD.hasB, Bool.and_eq_true, decide_eq_true_eq] at this
    exact this.1
  refine ⟨h1, fun i j hij hj => ?_⟩
  induction j with
  | zero => omega
  | succ j ih =>
    have h2 : fl j < fl (j + 1) := by
      have := hh (j + 1) hj
      simp only [YardD.isB, Bool.and_eq_true, Bool.or_eq_true, decide_eq_true_eq, Nat.add_sub_cancel] at this
      rcases this.2 with h | h
      · omega
      · exact h
    rcases Nat.lt_succ_iff_lt_or_eq.1 hij with hij | rfl
    · have := ih hij (by omega); omega
    · exact h2
theorem blL_ris {y : YardD} {n : Nat} {fl : Nat → Int} (h : allN n (y.isB fl) = true) : (blL n fl).Pairwise (· < ·) ∧ (∀ p ∈ blL n fl, p < y.nb) := by
  obtain ⟨h1, h2⟩ := beds_ris h
  refine ⟨?_, fun p hp => ?_⟩
  · unfold blL
    rw [List.pairwise_map]
    refine (List.pairwise_lt_range (n := n)).imp_of_mem fun {a b} ha hb hab => ?_
    have hb' := List.mem_range.1 hb
    have k1 := h1 a (by omega)
    have k2 := h2 a b hab hb'
    omega
  · obtain ⟨i, hi, rfl⟩ := List.mem_map.1 hp
    have := h1 i (List.mem_range.1 hi)
    omega
def YardD.proveB (y : YardD) (n : Nat) (fl : Nat → Int) : Bool := decide (y.check = 0) && allN n (y.isB fl) && !y.canL (blL n fl)
set_option maxHeartbeats 4000000 in
theorem prove_ok (y : YardD) (hb : y.nb < 1000000) (hc : y.nc < 1000000) (n : Nat) (ex : Bool) (fl : Nat → Int) (hn : n < 100000) : Pure Try.prog 35 [yardV y, intsV n ex fl] (.sb (y.proveB n fl)) := by
  obtain ⟨O, hO⟩ : ∃ O : Ar, O = std := ⟨_, rfl⟩
  have hnot : ∀ b, O.not b = !b := fun b => by subst hO; rfl
  have e1 := checkYard_ok y hb hc
  have e2 := areBeds_ok y n ex fl hn
  have e3 : y.check = 0 → allN n (y.isB fl) = true → Pure Try.prog 78 [yardV y, intsV n ex fl] (.sb (y.canL (blL n fl))) := fun hz ha => by
    have := hasSched_ok y (y.fit_of_check hz).1 (blL n fl) (blL_ris ha).1 (blL_ris ha).2 ex fl (fun i hi => by
      rw [blL_len] at hi
      rw [blL_get hi]
      have := ((beds_ris ha).1 i hi).1
      omega)
    rw [blL_len] at this
    exact this
  have hq : y.proveB n fl = (decide (y.check = 0) && allN n (y.isB fl) && !y.canL (blL n fl)) := rfl
  generalize y.proveB n fl = Q at hq ⊢
  generalize y.check = C at e1 e3 hq
  generalize allN n (y.isB fl) = A at e2 e3 hq
  generalize y.canL (blL n fl) = B at e3 hq
  refine pure_of_body tok 3 Try.func35 en35 rfl ⟨yardV_below y, intsV_below n ex fl, trivial⟩ Below.sb ?_
  refine SW.seqRun tok hO (by cbv <;> rfl) (by trivial) ?_
  refine SW.seqRun tok hO (by cbv <;> rfl) (by trivial) ?_
  refine OpsW.callP e1 (by cbv <;> rfl) ?_
  refine OpsW.run tok hO (by cbv <;> rfl) (by trivial) ?_
  refine OpsW.splitG (by cbv <;> rfl) (fun h1 => ?_) (fun h1 => ?_) <;> refine OpsW.run tok hO (by cbv <;> rfl) (by trivial) ?_
  · have hC : C = 0 := by subst hO; simpa [std] using h1
    refine OpsW.callP e2 (by cbv <;> rfl) ?_
    refine OpsW.run tok hO (by cbv <;> rfl) (by trivial) ?_
    refine OpsW.splitG (by cbv <;> rfl) (fun h2 => ?_) (fun h2 => ?_) <;> refine OpsW.run tok hO (by cbv <;> rfl) (by trivial) ?_
    · subst h2
      refine OpsW.callP (e3 hC rfl) (by cbv <;> rfl) ?_
      refine OpsW.run tok hO (by cbv <;> rfl) (by trivial) ?_
      refine SW.ret ⟨_, _, rfl, rfl, Eqv.sb ?_⟩
      show O.not B = Q
      rw [hnot, hq, decide_eq_true hC]; simp
    · refine SW.ret ⟨_, _, rfl, rfl, Eqv.bool ?_⟩
      rw [hq, h2]; simp
  · have hC : C ≠ 0 := by subst hO; simpa [std] using h1
    refine SW.ret ⟨_, _, rfl, rfl, Eqv.bool ?_⟩
    rw [hq, decide_eq_false hC]; simp
end Go.Fz
set_option linter.unusedVariables false
namespace Go.Fz
open Go.Proofs
set_option maxRecDepth 100000
theorem allI_bit : ∀ n : Fin 7, ∀ i : Fin 6, i.1 < n.1 → bitB (allI n.1) i.1 = true := by decide +kernel
theorem ten_pow : ∀ i : Fin 7, ((10 : Int) ^ i.1 ≤ 1000000 ∧ 1 ≤ (10 : Int) ^ i.1) := by decide +kernel
theorem mn_if (x : Int) : std.mn 4000 x = if x < 4000 then x else 4000 := rfl
theorem mnB_pr (lo hi : Nat → Int) (b : Int) (n : Nat) (hn : n ≤ 6) (hb : ∀ i, i < n → bitB b i = true) (hr : ∀ i, i < n → 0 ≤ lo i ∧ lo i ≤ hi i ∧ hi i ≤ 9) : ∀ i, i ≤ n → (1 ≤ prN lo hi i ∧ prN lo hi i ≤ 10 ^ i) ∧ mnB lo hi b i = std.mn 4000 (prN lo hi i)
  | 0, _ => ⟨⟨Int.le_refl _, Int.le_refl _⟩, rfl⟩
  | i + 1, hi' => by
    obtain ⟨⟨a1, a2⟩, ih⟩ := mnB_pr lo hi b n hn hb hr i (by omega)
    obtain ⟨r1, r2, r3⟩ := hr i (by omega)
    have hs : size64 (lo i) (hi i) = hi i - lo i + 1 := by
      unfold size64
      rw [sub64_in _ _ (by omega) (by omega), add64_in _ _ (by omega) (by omega)]
    obtain ⟨s, hsd⟩ : ∃ s, size64 (lo i) (hi i) = s := ⟨_, rfl⟩
    have hs1 : 1 ≤ s ∧ s ≤ 10 := by omega
    have hp : (10 : Int) ^ i ≤ 1000000 ∧ 1 ≤ (10 : Int) ^ i := ten_pow ⟨i, by omega⟩
    have ep : prN lo hi (i + 1) = mul64 (prN lo hi i) s := by rw [← hsd]; rfl
    have b1 : prN lo hi i ≤ prN lo hi i * s := by
      have := Int.mul_le_mul_of_nonneg_left hs1.1 (show 0 ≤ prN lo hi i by omega)
      omega
    have b2 : prN lo hi i * s ≤ 10 ^ i * 10 := Int.mul_le_mul a2 hs1.2 (by omega) (by have := hp.2; exact Int.le_trans (by decide) this)
    have b3 : (10 : Int) ^ i * 10 ≤ 10000000 := by have := hp.1; show (10 : Int) ^ i * 10 ≤ _; omega
    have em2 : mul64 (prN lo hi i) s = prN lo hi i * s := mul64_in _ _ (by omega) (by omega)
    have e10 : (10 : Int) ^ (i + 1) = 10 ^ i * 10 := Int.pow_succ ..
    have em : mnB lo hi b (i + 1) = std.mn 4000 (mul64 (mnB lo hi b i) s) := by
      show (if bitB b i then std.mn 4000 (mul64 (mnB lo hi b i) (size64 (lo i) (hi i))) else mnB lo hi b i) = _
      rw [if_pos (hb i (by omega)), hsd]
    refine ⟨⟨by rw [ep, em2]; omega, by rw [ep, em2, e10]; exact b2⟩, ?_⟩
    rw [em, ih, ep, em2, mn_if (prN lo hi i)]
    split
    · rw [em2]
    · rw [mul64_in _ _ (by omega) (by omega), mn_if, mn_if, if_neg (by omega), if_neg (by omega)]
theorem many_pr {y : YardD} (hfit : y.Fit) : mnB y.blo y.bhi (allI y.nb) y.nb = std.mn 4000 (prN y.blo y.bhi y.nb) :=
  (mnB_pr y.blo y.bhi (allI y.nb) y.nb hfit.nb (fun i hi => allI_bit ⟨y.nb, by have := hfit.nb; omega⟩ ⟨i, by have := hfit.nb; omega⟩ hi) (fun i hi => hfit.beg i hi) y.nb (Nat.le_refl _)).2
theorem valid_eq (y : YardD) : y.validB = y.validN := by
  unfold YardD.validB YardD.validN
  rw [show allN y.nc y.clmOk = allN y.nc y.clmN from allN_congr fun i _ => by
    unfold YardD.clmOk YardD.clmN
    rw [show y.hasB (y.cb i) = inB (y.cb i) 0 ((y.nb : Int) - 1) by
      rw [Bool.eq_iff_iff]; simp only [YardD.hasB, inB, Bool.and_eq_true, decide_eq_true_eq]; omega]]
theorem check_eq (y : YardD) : y.check = y.faultN := by
  unfold YardD.check YardD.faultN
  rw [← valid_eq]
  cases hl : y.long with
  | true => rfl
  | false =>
    cases hv : y.validB with
    | false => rfl
    | true =>
      have hfit : y.Fit := by
        simp only [YardD.long, Bool.or_eq_false_iff, decide_eq_false_iff_not] at hl
        simp only [YardD.validB, Bool.and_eq_true, decide_eq_true_eq, allN] at hv
        obtain ⟨⟨⟨v1, v2⟩, v3⟩, v4⟩ := hv
        refine ⟨by omega, fun b hb => ?_, fun b hb => ?_⟩
        · have := v3 b hb
          simp only [YardD.bedOk, inB, Bool.and_eq_true, decide_eq_true_eq] at this
          exact this.1
        · have := v3 b hb
          simp only [YardD.bedOk, withinB, Bool.and_eq_true, decide_eq_true_eq] at this
          omega
      simp only [Bool.false_eq_true, if_false, if_true]
      rw [many_pr hfit, mn_if]
      generalize prN y.blo y.bhi y.nb = p
      have hq : (2000 < p) ↔ (2000 < if p < 4000 then p else 4000) := by split <;> omega
      by_cases h1 : 2000 < p
      · rw [if_pos h1, if_pos (hq.1 h1)]
      · rw [if_neg h1, if_neg fun h => h1 (hq.2 h)]
def YardD.thinB (y : YardD) : Bool := decide (y.nb ≤ 8) && decide (y.nc ≤ 8) && (decide (y.faultN ≠ 0) || decide (mnB y.blo y.bhi (allI y.nb) y.nb ≤ 500))
theorem fault24_ok (y : YardD) (hb : y.nb < 1000000) (hc : y.nc < 1000000) : Pure Try.prog 24 [yardV y] (iV y.faultN) := by
  obtain ⟨O, hO⟩ : ∃ O : Ar, O = std := ⟨_, rfl⟩
  have e1 := fault_ok y hb hc
  generalize y.faultN = F at e1 ⊢
  refine pure_of_body tok 3 Try.func24 en24 rfl ⟨yardV_below y, trivial⟩ Below.lit ?_
  refine SW.seqRun tok hO (by cbv <;> rfl) (by trivial) ?_
  refine SW.seqRun tok hO (by cbv <;> rfl) (by trivial) ?_
  refine OpsW.callP e1 (by cbv <;> rfl) ?_
  refine OpsW.run tok hO (by cbv <;> rfl) (by trivial) ?_
  exact SW.ret ⟨_, _, rfl, rfl, Eqv.of rfl⟩
end Go.Fz
set_option linter.unusedVariables false
namespace Go.Fz
open Go.Proofs
set_option maxRecDepth 100000
set_option maxHeartbeats 4000000 in
theorem thin_ok (y : YardD) (hb : y.nb < 1000000) (hc : y.nc < 1000000) : Pure Try.prog 17 [yardV y] (.sb y.thinB) := by
  obtain ⟨O, hO⟩ : ∃ O : Ar, O = std := ⟨_, rfl⟩
  have e1 := fault_ok y hb hc
  have e2 := all_ok y hb
  have e3 := many_ok y (allI y.nb) hb
  have hq : y.thinB = (decide (y.nb ≤ 8) && decide (y.nc ≤ 8) && (decide (y.faultN ≠ 0) || decide (mnB y.blo y.bhi (allI y.nb) y.nb ≤ 500))) := rfl
  generalize y.thinB = Q at hq ⊢
  generalize y.faultN = F at e1 hq
  generalize mnB y.blo y.bhi (allI y.nb) y.nb = N at e3 hq
  generalize allI y.nb = A at e2 e3
  refine pure_of_body tok 3 Try.func17 en17 rfl ⟨yardV_below y, trivial⟩ Below.sb ?_
  refine SW.seqRun tok hO (by cbv <;> rfl) (by trivial) ?_
  refine SW.seqRunD tok mixed hO (by rfl) (by cbv <;> rfl) (by trivial) ?_
  refine AnyE.dec tok hO (by rfl) (by cbv <;> rfl) (by trivial) (fun h1 => ?_) (fun h1 => ?_)
  · have k1 : y.nb ≤ 8 := by
      have : (y.nb : Int) ≤ 8 := by subst hO; simpa [std] using h1
      omega
    refine AnyE.run tok hO (by rfl) (by cbv <;> rfl) (by trivial) ?_
    refine AnyE.dec tok hO (by rfl) (by cbv <;> rfl) (by trivial) (fun h2 => ?_) (fun h2 => ?_)
    · have k2 : y.nc ≤ 8 := by
        have : (y.nc : Int) ≤ 8 := by subst hO; simpa [std] using h2
        omega
      refine AnyE.run tok hO (by rfl) (by cbv <;> rfl) (by trivial) ?_
      refine AnyE.callP e1 (by cbv <;> rfl) (by cbv <;> rfl) ?_
      refine AnyE.run tok hO (by rfl) (by cbv <;> rfl) (by trivial) ?_
      refine AnyE.dec tok hO (by rfl) (by cbv <;> rfl) (by trivial) (fun h3 => ?_) (fun h3 => ?_)
      · have k3 : F ≠ 0 := by subst hO; simpa [std] using h3
        refine AnyE.run tok hO (by rfl) (by cbv <;> rfl) (by trivial) ?_
        refine SW.ret ⟨_, _, rfl, rfl, Eqv.bool ?_⟩
        rw [hq, decide_eq_true k1, decide_eq_true k2, decide_eq_true k3]; rfl
      · have k3 : F = 0 := by subst hO; simpa [std] using h3
        refine AnyE.run tok hO (by rfl) (by cbv <;> rfl) (by trivial) ?_
        refine AnyE.callP e2 (by cbv <;> rfl) (by cbv <;> rfl) ?_
        refine AnyE.run tok hO (by rfl) (by cbv <;> rfl) (by trivial) ?_
        refine AnyE.callP e3 (by cbv <;> rfl) (by cbv <;> rfl) ?_
        refine AnyE.run tok hO (by rfl) (by cbv <;> rfl) (by trivial) ?_
        refine AnyE.dec tok hO (by rfl) (by cbv <;> rfl) (by trivial) (fun h4 => ?_) (fun h4 => ?_)
        · have k4 : N ≤ 500 := by subst hO; simpa [std] using h4
          refine AnyE.run tok hO (by rfl) (by cbv <;> rfl) (by trivial) ?_
          refine SW.ret ⟨_, _, rfl, rfl, Eqv.bool ?_⟩
          rw [hq, decide_eq_true k1, decide_eq_true k2, decide_eq_true k4]; simp
        · have k4 : ¬ N ≤ 500 := by
            have : 500 < N := by subst hO; simpa [std] using h4
            omega
          refine AnyE.run tok hO (by rfl) (by cbv <;> rfl) (by trivial) ?_
          refine SW.ret ⟨_, _, rfl, rfl, Eqv.bool ?_⟩
          rw [hq, decide_eq_false k4, k3]; simp
    · have k2 : ¬ y.nc ≤ 8 := by
        have : (8 : Int) < y.nc := by subst hO; simpa [std] using h2
        omega
      refine AnyE.run tok hO (by rfl) (by cbv <;> rfl) (by trivial) ?_
      refine SW.ret ⟨_, _, rfl, rfl, Eqv.bool ?_⟩
      rw [hq, decide_eq_false k2]; simp
  · have k1 : ¬ y.nb ≤ 8 := by
      have : (8 : Int) < y.nb := by subst hO; simpa [std] using h1
      omega
    refine AnyE.run tok hO (by rfl) (by cbv <;> rfl) (by trivial) ?_
    refine SW.ret ⟨_, _, rfl, rfl, Eqv.bool ?_⟩
    rw [hq, decide_eq_false k1]; simp
def YardD.readyB (y : YardD) : Bool := y.thinB && decide (y.faultN = 0)
set_option maxHeartbeats 4000000 in
theorem ready_ok (y : YardD) (hb : y.nb < 1000000) (hc : y.nc < 1000000) : Pure Try.prog 45 [yardV y] (.sb y.readyB) := by
  obtain ⟨O, hO⟩ : ∃ O : Ar, O = std := ⟨_, rfl⟩
  have e1 := thin_ok y hb hc
  have e2 := fault24_ok y hb hc
  have hq : y.readyB = (y.thinB && decide (y.faultN = 0)) := rfl
  generalize y.readyB = Q at hq ⊢
  generalize y.thinB = A at e1 hq
  generalize y.faultN = F at e2 hq
  refine pure_of_body tok 3 Try.func45 en45 rfl ⟨yardV_below y, trivial⟩ Below.sb ?_
  refine SW.seqRun tok hO (by cbv <;> rfl) (by trivial) ?_
  refine SW.seqRun tok hO (by cbv <;> rfl) (by trivial) ?_
  refine OpsW.callP e1 (by cbv <;> rfl) ?_
  refine OpsW.run tok hO (by cbv <;> rfl) (by trivial) ?_
  refine OpsW.splitG (by cbv <;> rfl) (fun h1 => ?_) (fun h1 => ?_) <;> refine OpsW.run tok hO (by cbv <;> rfl) (by trivial) ?_
  · refine OpsW.callP e2 (by cbv <;> rfl) ?_
    refine OpsW.run tok hO (by cbv <;> rfl) (by trivial) ?_
    refine SW.ret ⟨_, _, rfl, rfl, Eqv.sb (Bool.eq_iff_iff.2 ?_)⟩
    rw [hq, h1]
    subst hO; simp [std]
  · refine SW.ret ⟨_, _, rfl, rfl, Eqv.bool ?_⟩
    rw [hq, h1]; rfl
end Go.Fz
set_option linter.unusedVariables false
namespace Go.Fz
open Go.Proofs
set_option maxRecDepth 100000
def YardD.withH (y : YardD) (k : Int) : YardD := { y with hands := k }
def YardD.canH (y : YardD) (k : Int) : Bool := (y.withH k).canL (List.range y.nb)
theorem hasAll_ok (y : YardD) (hfit : y.Fit) : Pure Try.prog 78 [yardV y, .isl y.nb 1 false natC] (.sb (y.canL (List.range y.nb))) := by
  have := hasSched_ok y hfit (List.range y.nb) List.pairwise_lt_range (fun p hp => List.mem_range.1 hp) false (fun j => (j : Int)) (fun i hi => by
    rw [List.length_range] at hi
    rw [List.getD_eq_getElem?_getD, List.getElem?_range hi]; rfl)
  rw [List.length_range] at this
  exact this
def YardD.fewN (y : YardD) : Int × Int := if y.check = 0 then (if y.canH 1 then (1, 0) else if y.canH 2 then (2, 0) else if y.canH 3 then (3, 0) else (0, 10)) else (0, y.check)
set_option maxHeartbeats 8000000 in
theorem fewest_ok (y : YardD) (hb : y.nb < 1000000) (hc : y.nc < 1000000) : Pure Try.prog 33 [yardV y] (.tup [iV y.fewN.1, iV y.fewN.2]) := by
  have e1 := checkYard_ok y hb hc
  have e2 : y.check = 0 → ∀ k, Pure Try.prog 79 [yardV (y.withH k)] (.isl y.nb 1 false natC) := fun hz k => numbers_ok (y.withH k) (by have := (y.fit_of_check hz).1.nb; show y.nb < 1000; omega)
  have e3 : y.check = 0 → ∀ k, Pure Try.prog 78 [yardV (y.withH k), .isl y.nb 1 false natC] (.sb (y.canH k)) := fun hz k => hasAll_ok (y.withH k) ⟨(y.fit_of_check hz).1.nb, (y.fit_of_check hz).1.lng, (y.fit_of_check hz).1.beg⟩
  have hq : y.fewN = if y.check = 0 then (if y.canH 1 then (1, 0) else if y.canH 2 then (2, 0) else if y.canH 3 then (3, 0) else (0, 10)) else (0, y.check) := rfl
  generalize y.fewN = FN at hq ⊢
  obtain ⟨fn, fe⟩ := FN
  obtain ⟨O, hO⟩ : ∃ O : Ar, O = std := ⟨_, rfl⟩
  obtain ⟨CH, hCH⟩ : ∃ c, y.canH = c := ⟨_, rfl⟩
  rw [hCH] at e3 hq
  generalize y.check = C at e1 e2 e3 hq
  refine pure_of_body tok 3 Try.func33 en33 rfl ⟨yardV_below y, trivial⟩ (Below.tup (AllB.ok ⟨Below.lit, Below.lit, trivial⟩)) ?_
  refine SW.seqRun tok hO (by cbv <;> rfl) (by trivial) ?_
  refine SW.seq ?_
  refine SW.seqRun tok hO (by cbv <;> rfl) (by trivial) ?_
  refine OpsW.callP e1 (by cbv <;> rfl) ?_
  refine OpsW.run tok hO (by cbv <;> rfl) (by trivial) ?_
  refine SW.seqRun tok hO (by cbv <;> rfl) (by trivial) ?_
  refine SW.condS (by cbv <;> rfl) (fun h1 => ?_) (fun h1 => SW.skip ?_)
  · have hC : C ≠ 0 := by subst hO; simpa [std] using h1
    rw [if_neg hC] at hq
    cases hq
    refine SW.seqRun tok hO (by cbv <;> rfl) (by trivial) ?_
    exact SW.ret ⟨_, _, rfl, rfl, Eqv.of rfl⟩
  have hC : C = 0 := by subst hO; simpa [std] using h1
  rw [if_pos hC] at hq
  have e2 := e2 hC
  have e3 := e3 hC
  show SW _ _ _ _ _ _
  refine SW.seq ?_
  refine SW.seqRun tok hO (by cbv <;> rfl) (by trivial) ?_
  refine (SW.block (SW.loopF (fun i : Nat => ⟨⟨24, getT [(1, .ptr 0 0)]⟩, []⟩) (fun i => ⟨[(0, .cells none false (yardC (y.withH ((i + 1 : Nat) : Int))))], 1⟩) (fun i => 3 - i) (fun i => i ≤ 3 ∧ ∀ j : Nat, j < i → CH ((j + 1 : Nat) : Int) = false) 0
    (fun _ => rfl) ⟨by omega, fun j hj => absurd hj (Nat.not_lt_zero j)⟩ (Weak.by rfl rfl (by simp) (Nat.le_refl _) (Nat.le_refl _) ⟨⟨rfl, .inl rfl⟩, trivial⟩ ⟨⟨rfl, by omega, .inl rfl⟩, trivial⟩) fun i ⟨hi, hall⟩ => ?_))
  obtain ⟨k, hk⟩ : ∃ k : Int, ((i + 1 : Nat) : Int) = k := ⟨_, rfl⟩
  rw [hk]
  have e2 := e2 k
  have e3 := e3 k
  refine SW.seq ?_
  refine SW.seqRun tok hO (by cbv <;> rfl) (by trivial) ?_
  refine SW.condS (by cbv <;> rfl) (fun h => SW.skip ?_) (fun h => SW.exit ?_)
  · have hlt : i < 3 := by
      have : k ≤ 3 := by subst hO; simpa [std] using h
      omega
    refine SW.seq (SW.block ?_)
    obtain ⟨B, hB⟩ : ∃ B, CH k = B := ⟨_, rfl⟩
    rw [hB] at e3
    refine SW.seqRunD tok mixed hO (by rfl) (by cbv <;> rfl) (by trivial) ?_
    refine AnyE.callP e2 (by cbv <;> rfl) (by cbv <;> rfl) ?_
    refine AnyE.run tok hO (by rfl) (by cbv <;> rfl) (by trivial) ?_
    refine AnyE.callP e3 (by cbv <;> rfl) (by cbv <;> rfl) ?_
    refine AnyE.run tok hO (by rfl) (by cbv <;> rfl) (by trivial) ?_
    cases B with
    | true =>
      refine SW.condS (by cbv <;> rfl) (fun _ => ?_) (fun h => by cases h)
      refine SW.seqRun tok hO (by cbv <;> rfl) (by trivial) ?_
      have : (fn, fe) = (k, 0) := by
        rw [hq]
        match i, hlt with
        | 0, _ => rw [show k = 1 by omega] at hB; rw [hB, show k = 1 by omega]; rfl
        | 1, _ =>
          have h0 := hall 0 (by omega)
          rw [show k = 2 by omega] at hB
          rw [show CH 1 = false from h0, hB, show k = 2 by omega]; rfl
        | 2, _ =>
          have h0 := hall 0 (by omega)
          have h1 := hall 1 (by omega)
          rw [show k = 3 by omega] at hB
          rw [show CH 1 = false from h0, show CH 2 = false from h1, hB, show k = 3 by omega]; rfl
      cases this
      exact SW.ret ⟨_, _, rfl, rfl, Eqv.of rfl⟩
    | false =>
      refine SW.condS (by cbv <;> rfl) (fun h => by cases h) (fun _ => SW.skip ?_)
      refine SW.run tok hO (by cbv <;> rfl) (by trivial) ?_
      have hinc : O.bin .add .i64 k 1 = ((i + 1 + 1 : Nat) : Int) := by
        subst hO
        show add64 k 1 = _
        rw [add64_in _ _ (by omega) (by omega)]; omega
      refine ⟨i + 1, by omega, ⟨by omega, fun j hj => ?_⟩, Weak.by rfl rfl (by simp) (Nat.le_refl _) (Nat.le_refl _) ⟨⟨rfl, .inl rfl⟩, trivial⟩ ⟨⟨?_, by omega, .inl rfl⟩, trivial⟩⟩
      · rcases Nat.lt_succ_iff_lt_or_eq.1 hj with hj | rfl
        · exact hall j hj
        · rw [hk]; exact hB
      · rw [← hinc]; rfl
  · have hge : i = 3 := by
      have : 3 < k := by subst hO; simpa [std] using h
      omega
    subst hge
    have h0 : CH 1 = false := hall 0 (by omega)
    have h1 : CH 2 = false := hall 1 (by omega)
    have h2 : CH 3 = false := hall 2 (by omega)
    rw [h0, h1, h2] at hq
    simp only [Bool.false_eq_true, if_false] at hq
    cases hq
    refine SW.seqRun tok hO (by cbv <;> rfl) (by trivial) ?_
    exact SW.ret ⟨_, _, rfl, rfl, Eqv.of rfl⟩
end Go.Fz
set_option linter.unusedVariables false
namespace Go.Fz
open Go.Proofs
set_option maxRecDepth 100000
theorem ris_fin7 : ∀ n : Fin 7, ∀ l ∈ risL n.1, l.Pairwise (· < ·) ∧ ∀ p ∈ l, p < n.1 := by decide +kernel
noncomputable def pfParts : Code × Code := match findRF (bodyF Try.f34) with
  | some p => p
  | none => (.skip, .skip)
def pfL : List (Nat × AV) := [(1, .ptr 0 0), (2, .ptr 1 0), (3, .ptr 2 0), (14, .fn (.func 100) [] [.ptr 3 0])]
noncomputable def pfR : ALoop := { state := .ready, pending := none, tmps := ⟨21, getT pfL⟩, params := #[15], assign := pfParts.1, body := pfParts.2, dfid := 4 }
noncomputable def pfRx : ALoop := { pfR with state := .done, pending := some .ret }
def pfH (y : YardD) (many : Int) (r : ALoop) (X : AV) : Hp :=
  [(5, .loop r), (4, .dfr), (3, .cells none false [iV many]), (2, .cells none false [iV 0]), (1, .cells none false [X]), (0, .cells none false (yardC y))]
theorem pfH_low {y : YardD} {many : Int} {s : LoopState} {c : Option Code} {X : AV} (hX : Below 0 X) : LowX 49 (pfH y many { pfR with state := s, pending := c } X) := by
  have hp : ∀ {ρ : Nat → Nat} {n j : Nat}, (∀ i, i < 49 → ρ i = i) → 49 ≤ n → j < 49 → RenV ρ n (.ptr j 0) (.ptr j 0) := fun {ρ n j} hρ hn hj => by
    have := RenV.ptr (ρ := ρ) (n := n) (j := j) (off := 0) (by omega)
    rwa [hρ j hj] at this
  unfold pfH
  refine LowX.cons (by omega) ⟨rfl, rfl, fun ρ n hρ hn => .base (.loop rfl rfl rfl rfl rfl (by show 4 = ρ 4; rw [hρ 4 (by omega)]) (by show 4 < n; omega) rfl (RenV.getT (l := pfL) ⟨hp hρ hn (by omega), hp hρ hn (by omega), hp hρ hn (by omega), RenV.fn .nil (.cons (hp hρ hn (by omega)) .nil), trivial⟩))⟩ ?_
  refine LowX.cons (by omega) ⟨rfl, rfl, fun ρ n hρ hn => .base .dfr⟩ ?_
  refine LowX.cons (by omega) (LowO.ints (AllB.ok ⟨Below.lit, trivial⟩)) ?_
  refine LowX.cons (by omega) (LowO.ints (AllB.ok ⟨Below.lit, trivial⟩)) ?_
  refine LowX.cons (by omega) (LowO.ints (AllB.ok ⟨hX, trivial⟩)) ?_
  exact LowX.cons (by omega) (LowO.ints (yardC_below y)) LowX.nil
set_option maxHeartbeats 4000000 in
theorem pf_round (y : YardD) (many : Int) (N : Nat) (fl : Nat → Int) (B : Bool) (hs : Pure Try.prog 78 [yardV y, intsV N false fl] (.sb B)) :
    YieldW Try.prog 5 [intsV N false fl] ⟨pfH y many pfR nl3, 49⟩ (fun v st' => ∃ h', ((v = .lit (.bool true) ∧ B = true ∧ h' = pfH y many pfR nl3) ∨ (v = .lit (.bool false) ∧ B = false ∧ h' = pfH y many pfRx (intsV N false fl))) ∧ Below 0 v ∧ LowX 49 h' ∧ 49 ≤ st'.n ∧ ∀ id o, Hp.get h' id = some o → st'.h.get id = some o) := by
  obtain ⟨O, hO⟩ : ∃ O : Ar, O = std := ⟨_, rfl⟩
  have hl1 := pfH_low (y := y) (many := many) (s := pfR.state) (c := pfR.pending) (X := nl3) Below.lit
  have hl2 := pfH_low (y := y) (many := many) (s := pfRx.state) (c := pfRx.pending) (X := intsV N false fl) (intsV_below _ _ _)
  refine YieldW.of_round (r := pfR) rfl rfl ?_
  refine SW.run tok hO (by cbv <;> rfl) (by trivial) ?_
  refine ⟨pfR, rfl, rfl, SW.block ?_⟩
  obtain ⟨RB, hRB⟩ : ∃ r, r = ({ pfR with state := .busy } : ALoop) := ⟨_, rfl⟩
  rw [← hRB]
  refine SW.seqRun tok hO (by cbv <;> rfl) (by trivial) ?_
  refine OpsW.callP hs (by cbv <;> rfl) ?_
  refine OpsW.run tok hO (by cbv <;> rfl) (by trivial) ?_
  refine SW.condS (by cbv <;> rfl) (fun h1 => ?_) (fun h1 => SW.skip ?_)
  · have hB : B = false := by subst hO; simpa [std] using h1
    refine SW.seqRun tok hO (by cbv <;> rfl) (by trivial) ?_
    subst hRB
    exact SW.ret ⟨_, rfl, pfH y many pfRx (intsV N false fl), .inr ⟨rfl, hB, rfl⟩, Below.lit, hl2, Nat.le_refl _, fun id o ho => ho⟩
  · have hB : B = true := by subst hO; simpa [std] using h1
    subst hRB
    exact ⟨_, rfl, pfH y many pfR nl3, .inl ⟨rfl, hB, rfl⟩, Below.lit, hl1, Nat.le_refl _, fun id o ho => ho⟩
theorem ris_ok {n : Nat} (hn : n ≤ 6) {l : List Nat} (hl : l ∈ risL n) : l.Pairwise (· < ·) ∧ ∀ p ∈ l, p < n := ris_fin7 ⟨n, by omega⟩ l hl
def pfK (y : YardD) (seen : List (List Nat)) (h : Hp) (n : Nat) : Prop := h = pfH y (y.nb : Int) pfR nl3 ∧ 53 ≤ n ∧ ∀ l ∈ seen, y.canL l = true
def pfS (y : YardD) (seen : List (List Nat)) (l : List Nat) (h : Hp) (n : Nat) : Prop := h = pfH y (y.nb : Int) pfRx (lsV l) ∧ 53 ≤ n ∧ (∀ l' ∈ seen, y.canL l' = true) ∧ y.canL l = false
theorem hasList_ok (y : YardD) (hfit : y.Fit) {l : List Nat} (hl : l ∈ risL y.nb) : Pure Try.prog 78 [yardV y, lsV l] (.sb (y.canL l)) :=
  hasSched_ok y hfit l (ris_ok hfit.nb hl).1 (ris_ok hfit.nb hl).2 false (fun i => ((l.getD i 0 : Nat) : Int)) (fun i _ => rfl)
theorem pf_step (y : YardD) (hfit : y.Fit) : rsStep (pfK y) (pfS y) (fun l => l ∈ risL y.nb) 5 := fun seen l h n R hK hok hR => by
  obtain ⟨rfl, hn, hs⟩ := hK
  have ha := YieldW.aside (R := R) (n := n) (m := 49) (y := 5) (by omega) (fun id o ho => ⟨(hR _ (Hp.mem_of_get ho)).1, (hR _ (Hp.mem_of_get ho)).2.2⟩) (by omega) (pfH_low (y := y) (many := (y.nb : Int)) (s := pfR.state) (c := pfR.pending) (X := nl3) Below.lit)
    (fun a ha => by rw [List.mem_singleton.1 ha]; exact intsV_below _ _ _) (pf_round y y.nb l.length (fun i => ((l.getD i 0 : Nat) : Int)) (y.canL l) (hasList_ok y hfit hok))
  refine ha.mono fun v st' hk => ?_
  obtain ⟨h', hk, _, rfl⟩ := hk
  rcases hk with ⟨rfl, hB, rfl⟩ | ⟨rfl, hB, rfl⟩
  · refine .inl ⟨rfl, _, n, Nat.le_refl _, rfl, rfl, hn, fun l' hl' => ?_⟩
    rcases List.mem_append.1 hl' with hl' | hl'
    · exact hs l' hl'
    · rw [List.mem_singleton.1 hl']; exact hB
  · exact .inr ⟨rfl, _, n, Nat.le_refl _, rfl, rfl, hn, hs, hB⟩
def YardD.prfV (y : YardD) : AV × Int := if y.check = 0 then (match (risL y.nb).find? (fun l => !y.canL l) with
  | none => (nl3, 7)
  | some l => (lsV l, 0)) else (nl3, y.check)
set_option maxHeartbeats 8000000 in
theorem proof_ok (y : YardD) (hb : y.nb < 1000000) (hc : y.nc < 1000000) : Pure Try.prog 34 [yardV y] (.tup [y.prfV.1, iV y.prfV.2]) := by
  obtain ⟨O, hO⟩ : ∃ O : Ar, O = std := ⟨_, rfl⟩
  have e1 := checkYard_ok y hb hc
  have hbel : Below 0 y.prfV.1 := by
    unfold YardD.prfV
    split
    · split
      · exact Below.lit
      · exact intsV_below _ _ _
    · exact Below.lit
  have hz : y.check ≠ 0 → y.prfV = (nl3, y.check) := fun h => if_neg h
  have hnone : y.check = 0 → (∀ l ∈ risL y.nb, y.canL l = true) → y.prfV = (nl3, 7) := fun h ha => by
    unfold YardD.prfV
    rw [if_pos h, List.find?_eq_none.2 fun l hl => by rw [ha l hl]; simp]
  have hsome : y.check = 0 → ∀ pre l post, risL y.nb = pre ++ l :: post → (∀ l' ∈ pre, y.canL l' = true) → y.canL l = false → y.prfV = (lsV l, 0) := fun h pre l post e1 e2 e3 => by
    unfold YardD.prfV
    rw [if_pos h, e1, List.find?_append, List.find?_eq_none.2 fun l hl => by rw [e2 l hl]; simp, List.find?_cons, e3]
    rfl
  have hris := fun (h : y.check = 0) => rising101 (K := pfK y) (stop := pfS y) (ok := fun l => l ∈ risL y.nb) (mc := 3) (y := 5) (many := y.nb) (by omega) (by have := (y.fit_of_check h).1.nb; omega) (fun s h n hk => by
      obtain ⟨rfl, hn, _⟩ := hk
      have hlow := pfH_low (y := y) (many := (y.nb : Int)) (s := pfR.state) (c := pfR.pending) (X := nl3) Below.lit
      refine ⟨hn, fun x hx => ?_, none, false, rfl⟩
      unfold pfH at hx
      simp only [List.mem_cons, List.not_mem_nil, or_false] at hx
      rcases hx with rfl | rfl | rfl | rfl | rfl | rfl
      all_goals exact ⟨by show _ < 49; omega, rfl⟩)
    (fun s l h n hk => by
      obtain ⟨rfl, hn, _⟩ := hk
      refine ⟨hn, fun x hx => ?_⟩
      unfold pfH at hx
      simp only [List.mem_cons, List.not_mem_nil, or_false] at hx
      rcases hx with rfl | rfl | rfl | rfl | rfl | rfl
      all_goals (show _ < 49; omega))
    (fun s h n n' hk hle => by
      obtain ⟨rfl, hn, hs⟩ := hk
      exact ⟨rfl, by omega, hs⟩) (fun l hl => hl) (pf_step y (y.fit_of_check h).1) (pfH y (y.nb : Int) pfR nl3) 6 (by omega) ⟨rfl, by omega, fun _ h => nomatch h⟩
  generalize y.prfV = PV at hbel hz hnone hsome ⊢
  obtain ⟨PX, pe⟩ := PV
  obtain ⟨C, hCe⟩ : ∃ c, y.check = c := ⟨_, rfl⟩
  rw [hCe] at e1 hz hnone hsome hris
  refine pure_of_body tok 3 Try.func34 en34 rfl ⟨yardV_below y, trivial⟩ (Below.tup (AllB.ok ⟨hbel, Below.lit, trivial⟩)) ?_
  refine SW.seqRun tok hO (by cbv <;> rfl) (by trivial) ?_
  refine SW.seq ?_
  refine SW.seqRun tok hO (by cbv <;> rfl) (by trivial) ?_
  refine OpsW.callP e1 (by cbv <;> rfl) ?_
  refine OpsW.run tok hO (by cbv <;> rfl) (by trivial) ?_
  refine SW.seqRun tok hO (by cbv <;> rfl) (by trivial) ?_
  refine SW.condS (by cbv <;> rfl) (fun h1 => ?_) (fun h1 => SW.skip ?_)
  · have hC : C ≠ 0 := by subst hO; simpa [std] using h1
    cases hz hC
    refine SW.seqRun tok hO (by cbv <;> rfl) (by trivial) ?_
    exact SW.ret ⟨_, _, rfl, rfl, Eqv.of rfl⟩
  have hC : C = 0 := by subst hO; simpa [std] using h1
  have hris := hris hC
  unfold pfK pfS at hris
  show SW _ _ _ _ _ _
  refine SW.seq ?_
  refine SW.seqRun tok hO (by cbv <;> rfl) (by trivial) ?_
  refine OpsW.callS en80 (rising74 (many := y.nb) _ _) (by cbv <;> rfl) fun v st' hk => ?_
  obtain ⟨rfl, rfl⟩ := hk
  refine OpsW.run tok hO (by cbv <;> rfl) (by trivial) ?_
  refine SW.block ?_
  refine SW.fmT (len := 21) pfL rfl rfl ⟨⟨rfl, .inl rfl⟩, ⟨rfl, .inl rfl⟩, ⟨rfl, .inl rfl⟩, ⟨rfl, .inl rfl⟩, trivial⟩ (fun id o ho => by
    have := Hp.mem_of_get ho
    simp only [List.mem_cons, Prod.mk.injEq, List.not_mem_nil, or_false] at this
    omega) ?_
  refine SW.rangeFunc (gf := 100) (first := []) (caps := [.ptr 3 0]) (by rfl) en100 ?_
  refine CallW.mono (show CallW Try.prog 100 [.yld 5, .ptr 3 0] ⟨pfH y (y.nb : Int) pfR nl3, 6⟩ _ from hris) fun v st' hk => ?_
  obtain ⟨h, n, rfl, hk | ⟨pre, l, post, hE, hk⟩⟩ := hk
  · obtain ⟨rfl, hn, hseen⟩ := hk
    cases hnone hC hseen
    refine ⟨pfR, rfl, (fun h => by simp [pfR] at h), ?_⟩
    show SW _ _ _ _ _ _
    refine SW.seqRun tok hO (by cbv <;> rfl) (by trivial) ?_
    exact SW.ret ⟨_, _, rfl, rfl, Eqv.of rfl⟩
  · obtain ⟨rfl, hn, hpre, hl⟩ := hk
    cases hsome hC pre l post hE hpre hl
    refine ⟨pfRx, rfl, (fun h => by simp [pfRx, pfR] at h), ?_⟩
    obtain ⟨N, fl, hlv⟩ : ∃ N fl, lsV l = intsV N false fl := ⟨_, _, rfl⟩
    rw [hlv]
    exact SW.ret ⟨_, _, rfl, rfl, Eqv.of rfl⟩
end Go.Fz
set_option linter.unusedVariables false
namespace Go.Fz
open Go.Proofs
set_option maxRecDepth 100000
theorem list_appS (n : Nat) (ex : Bool) (fl : Nat → Int) (h0 : 0 < n) (hn : n < 1000) :
    appendA T ⟨[(0, .cells none false [])], 1⟩ 26 26 (.sl 0 0 0 1 true) (intsV n ex fl) = some (.sl 1 0 n 1 false, ⟨[(1, .cells none false (flatG 1 (intC fl) n)), (0, .cells none false [])], 2⟩) := by
  obtain ⟨b1, e1⟩ : ∃ b, T 26 = some { desc := .slice 3, size := 1, bytes := 24, zero := [.slice none 0 0], flat := b } := ⟨_, rfl⟩
  obtain ⟨b2, e2⟩ : ∃ b, T 3 = some { desc := .int .i64, size := 1, bytes := 8, zero := [.int .i64 0], flat := b } := ⟨_, rfl⟩
  have hall := flatG_one (sz := 1) (intC_one fl) n
  have hs : slCells [(0, .cells none false [])] 1 (.sl 0 0 0 1 true) = some [] := by rfl
  unfold appendA
  simp only [e1, e2, hs]
  simp only [slCells, intsV, slLen]
  rw [if_pos ⟨trivial, by decide⟩]
  simp only [Nat.zero_add]
  rw [if_neg (by rw [hall]; simp; omega), if_neg (by omega)]
  rfl
theorem list_appS0 (ex : Bool) (fl : Nat → Int) : appendA T ⟨[(0, .cells none false [])], 1⟩ 26 26 (.sl 0 0 0 1 true) (intsV 0 ex fl) = some (.sl 0 0 0 1 true, ⟨[(0, .cells none false [])], 1⟩) := by
  obtain ⟨b1, e1⟩ : ∃ b, T 26 = some { desc := .slice 3, size := 1, bytes := 24, zero := [.slice none 0 0], flat := b } := ⟨_, rfl⟩
  obtain ⟨b2, e2⟩ : ∃ b, T 3 = some { desc := .int .i64, size := 1, bytes := 8, zero := [.int .i64 0], flat := b } := ⟨_, rfl⟩
  have hs : slCells [(0, .cells none false [])] 1 (.sl 0 0 0 1 true) = some [] := by rfl
  unfold appendA
  simp only [e1, e2, hs]
  simp only [slCells, intsV, slLen]
  rfl
theorem list22_ok (n : Nat) (ex : Bool) (fl : Nat → Int) (hn : n < 1000) : Pure Try.prog 22 [intsV n ex fl] (intsV n false fl) := by
  obtain ⟨O, hO⟩ : ∃ O : Ar, O = std := ⟨_, rfl⟩
  refine pure_of_body tok 3 Try.func22 en22 rfl ⟨intsV_below n ex fl, trivial⟩ (intsV_below n false fl) ?_
  refine SW.seqRun tok hO (by cbv <;> rfl) (by trivial) ?_
  refine SW.seq (SW.runN tok hO 2 (by cbv <;> rfl) (by trivial) ?_)
  rcases Nat.eq_zero_or_pos n with hz | hz
  · subst hz
    refine OpsW.appA tok (by cbv <;> rfl) (by exact list_appS0 ex fl) ?_
    refine OpsW.run tok hO (by cbv <;> rfl) (by trivial) ?_
    refine SW.ret ⟨_, _, rfl, rfl, ?_⟩
    have h1 : ∃ g, frz [(0, AObj.cells none false [])] (fun _ => true) 3 (.sl 0 0 0 1 true) = .isl 0 1 true g := ⟨_, rfl⟩
    obtain ⟨g, hg⟩ := h1
    show Eqv (frz [(0, AObj.cells none false [])] (fun _ => true) 3 (.sl 0 0 0 1 true)) _
    rw [hg]
    exact Eqv.trans Eqv.islX (Eqv.isl rfl fun i k hi _ => absurd hi (Nat.not_lt_zero i))
  · refine OpsW.appA tok (by cbv <;> rfl) (by exact list_appS n ex fl hz hn) ?_
    obtain ⟨G, hG⟩ : ∃ G, flatG 1 (intC fl) n = G := ⟨_, rfl⟩
    rw [hG]
    refine OpsW.run tok hO (by cbv <;> rfl) (by trivial) ?_
    refine SW.ret ⟨_, _, rfl, rfl, ?_⟩
    show Eqv (frz _ _ 3 (.sl 1 0 n 1 false)) _
    rw [frz_slE (fm := none) (G := G) rfl rfl (by rw [← hG, flatG_length]; omega), ← hG]
    exact Eqv.isl rfl fun i k hi hk => Eqv.of (frz_flat hi hk rfl)
end Go.Fz
set_option linter.unusedVariables false
namespace Go.Fz
open Go.Proofs
set_option maxRecDepth 100000
set_option maxHeartbeats 8000000 in
theorem before77_ok (na nb : Nat) (ea eb : Bool) (fa fb : Nat → Int) (hna : na < 1000) (hnb : nb < 1000) : Pure Try.prog 77 [intsV na ea fa, intsV nb eb fb] (.sb (befF fa fb na nb 0 (na + 1))) := by
  obtain ⟨O, hO⟩ : ∃ O : Ar, O = std := ⟨_, rfl⟩
  have hnat : ∀ i : Nat, O.nat (Int.ofNat i) = i := fun i => by subst hO; rfl
  refine pure_of_body tok 3 Try.func77 en77 rfl ⟨intsV_below _ _ _, intsV_below _ _ _, trivial⟩ Below.sb ?_
  refine SW.seqRun tok hO (by cbv <;> rfl) (by trivial) ?_
  refine SW.seq ?_
  refine SW.seqRun tok hO (by cbv <;> rfl) (by trivial) ?_
  refine (SW.block (SW.loopF (fun i : Nat => ⟨⟨41, getT [(0, intsV na ea fa), (1, intsV nb eb fb), (5, iV i)]⟩, []⟩) (fun _ => ⟨[], 0⟩) (fun i => na + 1 - i) (fun i => i ≤ na ∧ befF fa fb na nb 0 (na + 1) = befF fa fb na nb i (na + 1 - i)) 0
    (fun _ => rfl) ⟨Nat.zero_le _, rfl⟩ (Weak.by rfl rfl (by simp) (Nat.le_refl _) (Nat.le_refl _) ⟨⟨rfl, .inl rfl⟩, ⟨rfl, .inl rfl⟩, ⟨rfl, .inl rfl⟩, trivial⟩ trivial) fun i ⟨hi, hB⟩ => ?_))
  have hun : befF fa fb na nb i (na + 1 - i) = if i < na ∧ i < nb then (if fa i = fb i then befF fa fb na nb (i + 1) (na - i) else decide (fa i < fb i)) else decide ((na : Int) < nb) := by
    rw [show na + 1 - i = (na - i) + 1 by omega]; rfl
  rw [hun] at hB
  have h0 : (0 : Int) ≤ Int.ofNat i := Int.natCast_nonneg i
  generalize befF fa fb na nb 0 (na + 1) = B at hB ⊢
  refine SW.seq ?_
  refine SW.seqRun tok hO (by cbv <;> rfl) (by trivial) ?_
  have hend : ¬ (i < na ∧ i < nb) → B = decide ((na : Int) < nb) := fun h => by rw [hB, if_neg h]
  refine OpsW.splitG (by cbv <;> rfl) (fun h => ?_) (fun h => ?_)
  · have hlt : i < na := by subst hO; simpa [std] using h
    refine OpsW.run tok hO (by cbv <;> rfl) (by trivial) ?_
    refine SW.condS (by cbv <;> rfl) (fun h3 => SW.skip ?_) (fun h3 => SW.exit ?_)
    · have hlt2 : i < nb := by subst hO; simpa [std] using h3
      rw [if_pos ⟨hlt, hlt2⟩] at hB
      refine SW.seq (SW.block ?_)
      refine SW.seqRunD tok mixed hO (by rfl) (by cbv <;> rfl) ?_ ?_
      · exact ⟨⟨h0, Int.ofNat_lt.2 hlt2⟩, ⟨h0, Int.ofNat_lt.2 hlt⟩⟩
      refine AnyE.dec tok hO (by rfl) (by cbv <;> rfl) (by trivial) (fun h4 => ?_) (fun h4 => ?_) <;> refine AnyE.run tok hO (by rfl) (by cbv <;> rfl) (by trivial) ?_
      · have hne : fa i ≠ fb i := by subst hO; simpa [std] using h4
        rw [if_neg hne] at hB
        refine SW.cond (t := true) (by cbv <;> rfl) ?_
        refine SW.seqRunD tok mixed hO (by rfl) (by cbv <;> rfl) ?_ ?_
        · exact ⟨⟨h0, Int.ofNat_lt.2 hlt2⟩, ⟨h0, Int.ofNat_lt.2 hlt⟩⟩
        refine AnyE.dec tok hO (by rfl) (by cbv <;> rfl) (by trivial) (fun h5 => ?_) (fun h5 => ?_) <;> refine AnyE.run tok hO (by rfl) (by cbv <;> rfl) (by trivial) ?_
        · have h6 : fa i < fb i := by subst hO; simpa [std] using h5
          refine SW.ret ⟨_, _, rfl, rfl, Eqv.bool ?_⟩
          rw [hB, decide_eq_true h6]
        · have h6 : ¬ fa i < fb i := by subst hO; simpa [std] using h5
          refine SW.ret ⟨_, _, rfl, rfl, Eqv.bool ?_⟩
          rw [hB, decide_eq_false h6]
      · have he : fa i = fb i := by subst hO; simpa [std] using h4
        rw [if_pos he] at hB
        refine SW.cond (t := false) (by cbv <;> rfl) (SW.skip ?_)
        refine SW.run tok hO (by cbv <;> rfl) (by trivial) ?_
        exact ⟨i + 1, by omega, ⟨by omega, by rw [hB]; congr 1; omega⟩, Weak.by rfl rfl (by simp) (Nat.le_refl _) (Nat.zero_le _) ⟨⟨rfl, .inr (intsV_below _ _ _)⟩, ⟨rfl, .inr (intsV_below _ _ _)⟩, ⟨inc_ok hO (by omega), .inr Below.lit⟩, trivial⟩ trivial⟩
    · have hge : ¬ i < nb := by subst hO; simpa [std] using h3
      refine SW.seqRun tok hO (by cbv <;> rfl) (by trivial) ?_
      refine SW.ret ⟨_, _, rfl, rfl, Eqv.sb ?_⟩
      rw [hend (fun h => hge h.2)]; subst hO; rfl
  · have hge : ¬ i < na := by subst hO; simpa [std] using h
    refine OpsW.run tok hO (by cbv <;> rfl) (by trivial) ?_
    refine SW.cond (t := false) (by cbv <;> rfl) (SW.exit ?_)
    refine SW.seqRun tok hO (by cbv <;> rfl) (by trivial) ?_
    refine SW.ret ⟨_, _, rfl, rfl, Eqv.sb ?_⟩
    rw [hend (fun h => hge h.1)]; subst hO; rfl
set_option maxHeartbeats 8000000 in
theorem shorter_ok (na nb : Nat) (ea eb : Bool) (fa fb : Nat → Int) (hna : na < 1000) (hnb : nb < 1000) : Pure Try.prog 53 [intsV na ea fa, intsV nb eb fb] (.sb (shortB na nb fa fb)) := by
  obtain ⟨O, hO⟩ : ∃ O : Ar, O = std := ⟨_, rfl⟩
  have hbef := before77_ok na nb ea eb fa fb hna hnb
  obtain ⟨S, hS⟩ : ∃ S, shortB na nb fa fb = S := ⟨_, rfl⟩
  unfold shortB at hS
  rw [show shortB na nb fa fb = S from hS]
  generalize befF fa fb na nb 0 (na + 1) = B at hbef hS
  refine pure_of_body tok 3 Try.func53 en53 rfl ⟨intsV_below _ _ _, intsV_below _ _ _, trivial⟩ Below.sb ?_
  refine SW.seqRun tok hO (by cbv <;> rfl) (by trivial) ?_
  refine SW.seqRun tok hO (by cbv <;> rfl) (by trivial) ?_
  refine OpsW.splitG (by cbv <;> rfl) (fun h => ?_) (fun h => ?_)
  · have hlt : (na : Int) < nb := by subst hO; simpa [std] using h
    refine OpsW.run tok hO (by cbv <;> rfl) (by trivial) ?_
    refine SW.ret ⟨_, _, rfl, rfl, Eqv.bool ?_⟩
    rw [← hS, decide_eq_true hlt]; rfl
  · have hlt : ¬ (na : Int) < nb := by subst hO; simpa [std] using h
    refine OpsW.run tok hO (by cbv <;> rfl) (by trivial) ?_
    refine OpsW.splitG (by cbv <;> rfl) (fun h2 => ?_) (fun h2 => ?_)
    · have he : (na : Int) = nb := by subst hO; simpa [std] using h2
      refine OpsW.run tok hO (by cbv <;> rfl) (by trivial) ?_
      refine OpsW.callP hbef (by cbv <;> rfl) ?_
      refine OpsW.run tok hO (by cbv <;> rfl) (by trivial) ?_
      refine SW.ret ⟨_, _, rfl, rfl, Eqv.sb ?_⟩
      rw [← hS, decide_eq_false hlt, decide_eq_true he]; rfl
    · have he : ¬ (na : Int) = nb := by subst hO; simpa [std] using h2
      refine OpsW.run tok hO (by cbv <;> rfl) (by trivial) ?_
      refine SW.ret ⟨_, _, rfl, rfl, Eqv.bool ?_⟩
      rw [← hS, decide_eq_false hlt, decide_eq_false he]; rfl
end Go.Fz
