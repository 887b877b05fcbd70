/- Own work of the verifier of watercress: FzB4, FzB5, FzB6, FzB7. -/
import Derived.Test.YtpefamheopplnaaMl9
set_option linter.unusedVariables false
set_option linter.unusedSimpArgs false
namespace Go.Fz
open Go.Proofs
set_option maxRecDepth 100000
theorem WeakR.upD {n0 r m : Nat} {f1 : Fm} {st1 : St} {l : List (Nat × AV)} {len : Nat} {dm : List Nat} {hl : Hp} {n2 : Nat} (e1 : len = f1.ts.len) (e2 : dm = f1.dm) (e3 : ∀ id ∈ dm, id < n0) (hr : n0 ≤ r) (hm : ∀ p ∈ hl, p.1 ≠ m) (lo : n0 ≤ n2)
    (get : AllP (fun p => RenV (ren1 r m) n2 p.2 (f1.ts.get p.1)) l) (obj : AllP (fun p => p.1 < n2 ∧ ∃ o1, st1.h.get (ren1 r m p.1) = some o1 ∧ RenO (ren1 r m) n2 p.2 o1 ∧ (p.1 = r ∨ o1.fam = none)) hl) :
    WeakR n0 (ren1 r m) f1 st1 ⟨⟨len, getT l⟩, dm⟩ ⟨hl, n2⟩ := by
  refine WeakR.of (m := r) e1 e2 e3 (fun j hj => ren1_ne (by omega)) lo get.ok obj.ok fun p hp q hq h => ?_
  have h1 := hm p hp
  have h2 := hm q hq
  by_cases hpr : p.1 = r
  · by_cases hqr : q.1 = r
    · rw [hpr, hqr]
    · rw [hpr, ren1_eq, ren1_ne hqr] at h; exact absurd h.symm h2
  · by_cases hqr : q.1 = r
    · rw [hqr, ren1_eq, ren1_ne hpr] at h; exact absurd h h1
    · rw [ren1_ne hpr, ren1_ne hqr] at h; exact h
theorem RenV.inc {O : Ar} (hO : O = std) {ρ : Nat → Nat} {n i : Nat} (h : i < 4611686018427387904) : RenV ρ n (iV ((i + 1 : Nat) : Int)) (.lit (.int .i64 (O.bin .add .i64 (Int.ofNat i) 1))) := by
  rw [inc_ok hO h]; exact RenV.closed Below.lit
theorem frz_slE {h : Hp} {D : Nat → Bool} {id sz n : Nat} {fm : Option Nat} {G : List AV} (hd : D id = true) (hg : h.get id = some (.cells fm false G)) (hl : n * sz ≤ G.length) :
    frz h D 3 (.sl id 0 n sz false) = .isl n sz false (fun i k => frz h D 2 (G.getD (0 + i * sz + k) .any)) := by
  show (if D id = true then (match h.get id with | some (.cells _ false cs) => if 0 + n * sz ≤ cs.length then AV.isl n sz false (fun i k => frz h D 2 (cs.getD (0 + i * sz + k) .any)) else .any | _ => .any) else _) = _
  rw [if_pos hd, hg]
  exact if_pos (by omega)
theorem frz_flat {h : Hp} {D : Nat → Bool} {sz n i k : Nat} {g : Nat → Nat → AV} (hi : i < n) (hk : k < sz) (hz : frz h D 2 (g i k) = g i k) : frz h D 2 ((flatG sz g n).getD (0 + i * sz + k) .any) = g i k := by
  rw [List.getD_eq_getElem?_getD, show 0 + i * sz + k = i * sz + k by omega, flatG_get sz g n i k hi hk]; exact hz
def unkC (d : DayD) (i k : Nat) : AV := if i < d.nw then womC d i k else lotC d (i - d.nw) (k + 1)
theorem womC_one (d : DayD) (i k : Nat) : (womC d i k).one = true := by unfold womC; split <;> rfl
theorem womC_below (d : DayD) (i k : Nat) : Below 0 (womC d i k) := by unfold womC; split <;> exact Below.lit
theorem lotC_below (d : DayD) (i k : Nat) : Below 0 (lotC d i k) := by unfold lotC; split <;> exact Below.lit
theorem unkC_below (d : DayD) (i k : Nat) : Below 0 (unkC d i k) := by unfold unkC; split; exact womC_below d i k; exact lotC_below d _ _
theorem flatG_below {sz : Nat} {g : Nat → Nat → AV} (h : ∀ i k, Below 0 (g i k)) : ∀ n, ∀ a ∈ flatG sz g n, Below 0 a
  | 0, a, ha => by cases ha
  | n + 1, a, ha => by
    simp only [flatG, List.mem_append] at ha
    rcases ha with ha | ha
    · exact flatG_below h n a ha
    · obtain ⟨i, hi⟩ := List.mem_iff_getElem?.1 ha
      rw [cellsFrom_get] at hi
      split at hi
      · cases hi; exact h n _
      · cases hi
theorem flatG_congr {sz : Nat} {g g' : Nat → Nat → AV} : ∀ {n : Nat}, (∀ i k, i < n → g i k = g' i k) → flatG sz g n = flatG sz g' n
  | 0, _ => rfl
  | n + 1, h => by
    simp only [flatG]
    rw [flatG_congr (n := n) fun i k hi => h i k (by omega), show g n = g' n from funext fun k => h n k (by omega)]
theorem flatG_one {sz : Nat} {g : Nat → Nat → AV} (h : ∀ i k, (g i k).one = true) : ∀ n, (flatG sz g n).all AV.one = true
  | 0 => rfl
  | n + 1 => by
    simp only [flatG, List.all_append, flatG_one h n, Bool.true_and]
    rw [List.all_eq_true]
    intro a ha
    obtain ⟨i, hi⟩ := List.mem_iff_getElem?.1 ha
    rw [cellsFrom_get] at hi
    split at hi
    · cases hi; exact h n _
    · cases hi
theorem woms_app (d : DayD) (h0 : 0 < d.nw) (hn : d.nw < 1000) (st : St) :
    appendA T st 29 29 (.lit (.slice none 0 0)) (womsV d) = some (.sl st.n 0 d.nw 2 false, st.push (.cells none false (flatG 2 (womC d) d.nw))) := by
  obtain ⟨b1, e1⟩ : ∃ b, T 29 = some { desc := .slice 31, size := 1, bytes := 24, zero := [.slice none 0 0], flat := b } := ⟨_, rfl⟩
  obtain ⟨ti, e2, e3, e4, e5⟩ : ∃ ti, T 31 = some ti ∧ ti.size = 2 ∧ ti.bytes = 16 ∧ ti.zero.length = 2 := ⟨_, rfl, rfl, rfl, rfl⟩
  have hall := flatG_one (sz := 2) (womC_one d) d.nw
  unfold appendA
  simp only [e1, e2, slCells, womsV, slLen, e3, e4, e5]
  rw [if_pos ⟨trivial, by decide⟩]
  simp only [Nat.zero_add]
  rw [if_neg (by rw [hall]; simp; omega)]
  exact if_neg (by omega)
set_option maxHeartbeats 4000000 in
theorem unknown_ok (d : DayD) (h0 : 0 < d.nw) (hw : d.nw ≤ 4) (hl : d.nl ≤ 4) : Pure Try.prog 120 [dayV d] (.isl (d.nw + d.nl) 2 false (unkC d)) := by
  obtain ⟨O, hO⟩ : ∃ O : Ar, O = std := ⟨_, rfl⟩
  have hnat : ∀ i : Nat, O.nat (Int.ofNat i) = i := fun i => by subst hO; rfl
  refine pure_of_body tok 3 Try.func120 en120 rfl ⟨dayV_below d, trivial⟩ (Below.isl fun i k _ _ => unkC_below d i k) ?_
  refine SW.seqRun tok hO (by cbv <;> rfl) (by trivial) ?_
  refine SW.seqRun tok hO (by cbv <;> rfl) (by trivial) ?_
  refine SW.seq (SW.runN tok hO 3 (by cbv <;> rfl) (by trivial) ?_)
  obtain ⟨G0, hG0⟩ : ∃ G, G = flatG 2 (womC d) d.nw := ⟨_, rfl⟩
  refine OpsW.appA (st' := ⟨[(1, .cells none false G0), (0, .cells none false (dayC d))], 2⟩) tok (by cbv <;> rfl) (by rw [hG0]; exact woms_app d h0 (by omega) _) ?_
  refine OpsW.run tok hO (by cbv <;> rfl) (by trivial) ?_
  have hlot : ∀ i, i < d.nl → ∀ a b, a = d.llo i → b = d.lhi i → flatG 2 (unkC d) (d.nw + i) ++ [iV a, iV b] = flatG 2 (unkC d) (d.nw + (i + 1)) := fun i _ a b ha hb => by
    show _ = flatG 2 (unkC d) (d.nw + i) ++ cellsFrom (unkC d (d.nw + i)) 0 2
    have e : ∀ k, unkC d (d.nw + i) k = lotC d i (k + 1) := fun k => by
      unfold unkC; rw [if_neg (by omega), show d.nw + i - d.nw = i by omega]
    have : cellsFrom (unkC d (d.nw + i)) 0 2 = [unkC d (d.nw + i) 0, unkC d (d.nw + i) 1] := rfl
    rw [this, e, e, ha, hb]; rfl
  refine SW.seq (SW.mono (Q := fun e fm st => e = .normal ∧ ∃ g A, fm = ⟨⟨24, g⟩, []⟩ ∧ g 3 = .isl (d.nw + d.nl) 2 false A ∧ Eqv (.isl (d.nw + d.nl) 2 false A) (.isl (d.nw + d.nl) 2 false (unkC d)) ∧ st = ⟨[(0, .cells none false (dayC d))], 3⟩) ?_ ?_)
  · refine SW.seqRun tok hO (by cbv <;> rfl) (by trivial) ?_
    refine (SW.block (SW.loopR (fun i : Nat => ⟨⟨24, getT [(1, .ptr 0 0), (3, .sl 2 0 (d.nw + i) 2 false), (11, lotsV d), (12, iV d.nl), (13, iV i)]⟩, []⟩) (fun i => ⟨[(2, .cells none false (flatG 2 (unkC d) (d.nw + i))), (0, .cells none false (dayC d))], 3⟩) (fun i => d.nl - i) (fun i => i ≤ d.nl) 0 (Nat.zero_le _) (ren1 2 1) ?_ fun i hi => ?_))
    · refine WeakR.upD rfl rfl (by simp) (by show 2 ≤ 2; omega) (by simp) (by show 2 ≤ 3; omega) ⟨RenV.ptr (by omega), RenV.sl (by omega), RenV.closed (lotsV_below d), RenV.closed Below.lit, RenV.closed Below.lit, trivial⟩
        ⟨⟨by omega, _, rfl, .cells (RenVs.of_eq (hG0.trans (flatG_congr fun i k hi => by unfold unkC; rw [if_pos (by omega)])) (flatG_below (unkC_below d) _)), .inl rfl⟩, ⟨by omega, _, rfl, .cells (RenVs.closed (dayC_below d)), .inr rfl⟩, trivial⟩
    obtain ⟨G, hG⟩ : ∃ G, G = flatG 2 (unkC d) (d.nw + i) := ⟨_, rfl⟩
    rw [← hG]
    obtain ⟨N, hN⟩ : ∃ N, N = d.nw + i := ⟨_, rfl⟩
    rw [← hN] at hG ⊢
    refine SW.seqRun tok hO (by cbv <;> rfl) (by trivial) ?_
    refine SW.seq (SW.condS (by cbv <;> rfl) (fun h => SW.skip ?_) (fun h => ?_))
    · have hlt : i < d.nl := by subst hO; simpa [std] using h
      have hi0 : (0 : Int) ≤ Int.ofNat i := Int.natCast_nonneg i
      refine SW.seq (SW.block ?_)
      refine SW.seqRun tok hO (by cbv <;> rfl) ?_ ?_
      · exact ⟨hi0, Int.ofNat_lt.2 hlt⟩
      refine SW.runN tok hO 4 (by cbv <;> rfl) (by trivial) ?_
      refine OpsW.appOne (g := unkC d) tok (by cbv <;> rfl) (by rfl) (by rfl) hG (by kernel_rfl) (by rfl) (by rfl) (by omega) fun G' hG' => ?_
      refine OpsW.run tok hO (by cbv <;> rfl) (by trivial) ?_
      refine SW.run tok hO (by cbv <;> rfl) (by trivial) ?_
      refine ⟨i + 1, by omega, by omega, ren1 2 5, ?_⟩
      refine WeakR.upD rfl rfl (by simp) (by show 2 ≤ 2; omega) (by simp) (by show 2 ≤ 3; omega) ⟨RenV.ptr (by omega), by rw [show d.nw + (i + 1) = N + 1 by omega]; exact RenV.sl (by omega), RenV.closed (lotsV_below d), RenV.closed Below.lit, RenV.inc hO (by omega), trivial⟩
        ⟨⟨by omega, _, rfl, .cells (RenVs.of_eq ((by rw [hN] at hG'; exact hG' : _ = _).trans (hlot i hlt _ _ (by subst hO; rfl) (by subst hO; rfl))) (flatG_below (unkC_below d) _)), .inl rfl⟩, ⟨by omega, _, rfl, .cells (RenVs.closed (dayC_below d)), .inr rfl⟩, trivial⟩
    · have hz : d.nl = i := by
        have : d.nl ≤ i := by subst hO; simpa [std] using h
        omega
      refine SW.freezeZ (fun j => Nat.beq j 2) 3 (by rfl) (SW.exit ⟨rfl, _, (fun i' k => frz [(2, .cells none false G), (0, .cells none false (dayC d))] (fun j => Nat.beq j 2) 2 (G.getD (0 + i' * 2 + k) .any)), rfl, ?_, ?_, rfl⟩)
      · rw [show d.nw + d.nl = N by omega]
        exact frz_slE (fm := none) rfl rfl (by rw [hG, flatG_length]; omega)
      · refine Eqv.isl rfl fun i' k hi' hk => ?_
        rw [hG]
        exact Eqv.of (frz_flat (by omega) hk (by unfold unkC womC lotC; repeat' split
                                                 all_goals rfl))
  · rintro e fm st ⟨rfl, g, A, rfl, hg, hA, rfl⟩
    obtain ⟨M, hM⟩ : ∃ M, M = d.nw + d.nl := ⟨_, rfl⟩
    rw [← hM] at hg hA ⊢
    rw [← updT_self hg]
    refine SW.seqRun tok hO (by cbv <;> rfl) (by trivial) ?_
    exact SW.ret ⟨_, _, rfl, rfl, hA⟩
def rngC (lo hi : Nat → Int) (i k : Nat) : AV := match k with
  | 0 => iV (lo i)
  | _ => iV (hi i)
def DayD.ulo (d : DayD) (i : Nat) : Int := if i < d.nw then d.wlo i else d.llo (i - d.nw)
def DayD.uhi (d : DayD) (i : Nat) : Int := if i < d.nw then d.whi i else d.lhi (i - d.nw)
theorem unknown_ok' (d : DayD) (h0 : 0 < d.nw) (hw : d.nw ≤ 4) (hl : d.nl ≤ 4) : Pure Try.prog 120 [dayV d] (.isl (d.nw + d.nl) 2 false (rngC d.ulo d.uhi)) :=
  (unknown_ok d h0 hw hl).res (Eqv.isl rfl fun i k hi hk => Eqv.of (by
    match k, hk with
    | 0, _ => by_cases hc : i < d.nw <;> simp [unkC, rngC, DayD.ulo, DayD.uhi, womC, lotC, hc]
    | 1, _ => by_cases hc : i < d.nw <;> simp [unkC, rngC, DayD.ulo, DayD.uhi, womC, lotC, hc]))
def prN (lo hi : Nat → Int) : Nat → Int
  | 0 => 1
  | i + 1 => mul64 (prN lo hi i) (size64 (lo i) (hi i))
def manyB (lo hi : Nat → Int) (M : Nat) : Bool := !(allN M fun i => decide (prN lo hi (i + 1) ≤ 2000))
theorem tooMany_ok (d : DayD) (h0 : 0 < d.nw) (hw : d.nw ≤ 4) (hl : d.nl ≤ 4) : Pure Try.prog 87 [dayV d] (.sb (manyB d.ulo d.uhi (d.nw + d.nl))) := by
  obtain ⟨O, hO⟩ : ∃ O : Ar, O = std := ⟨_, rfl⟩
  have hnat : ∀ i : Nat, O.nat (Int.ofNat i) = i := fun i => by subst hO; rfl
  have hu := unknown_ok' d h0 hw hl
  generalize d.ulo = U at hu
  generalize d.uhi = V at hu
  have hM8 : d.nw + d.nl ≤ 8 := by omega
  generalize d.nw + d.nl = M at hu hM8
  refine pure_of_body tok 3 Try.func87 en87 rfl ⟨dayV_below d, trivial⟩ Below.sb ?_
  refine SW.seqRun tok hO (by cbv <;> rfl) (by trivial) ?_
  refine SW.seqRun tok hO (by cbv <;> rfl) (by trivial) ?_
  refine SW.seq ?_
  refine SW.seqRun tok hO (by cbv <;> rfl) (by trivial) ?_
  refine OpsW.callP hu (by cbv <;> rfl) ?_
  refine OpsW.run tok hO (by cbv <;> rfl) (by trivial) ?_
  refine (SW.block (SW.loopF (fun i : Nat => ⟨⟨20, getT [(3, iV (prN U V i)), (7, .isl M 2 false (rngC U V)), (8, iV M), (9, iV i)]⟩, []⟩) (fun _ => ⟨[], 1⟩) (fun i => M - i) (fun i => i ≤ M ∧ ∀ j, j < i → prN U V (j + 1) ≤ 2000) 0
    (fun _ => rfl) ⟨Nat.zero_le _, fun j hj => absurd hj (Nat.not_lt_zero j)⟩ (Weak.by rfl rfl (by simp) (Nat.le_refl _) (Nat.le_refl _) ⟨⟨rfl, .inl rfl⟩, ⟨rfl, .inl rfl⟩, ⟨rfl, .inl rfl⟩, ⟨rfl, .inl rfl⟩, trivial⟩ trivial) fun i ⟨hi, hall⟩ => ?_))
  generalize hacc : prN U V i = acc
  refine SW.seqRun tok hO (by cbv <;> rfl) (by trivial) ?_
  refine SW.seq (SW.condS (by cbv <;> rfl) (fun h => SW.skip ?_) (fun h => SW.exit ?_))
  · have hlt : i < M := by subst hO; simpa [std] using h
    have hi0 : (0 : Int) ≤ Int.ofNat i := Int.natCast_nonneg i
    refine SW.seq (SW.block ?_)
    refine SW.seqRun tok hO (by cbv <;> rfl) ?_ ?_
    · exact ⟨hi0, Int.ofNat_lt.2 hlt⟩
    refine SW.seqRun tok hO (by cbv <;> rfl) (by trivial) ?_
    refine OpsW.callI (size_ok (U (O.nat (Int.ofNat i))) (V (O.nat (Int.ofNat i)))) (by cbv <;> rfl) fun v hv => ?_
    refine OpsW.run tok hO (by cbv <;> rfl) (by trivial) ?_
    refine SW.seqRun tok hO (by cbv <;> rfl) (by trivial) ?_
    have hnew : O.bin .mul .i64 acc v = prN U V (i + 1) := by
      subst hO; subst hv; subst hacc; rfl
    refine SW.condS (by cbv <;> rfl) (fun h2 => ?_) (fun h2 => SW.skip ?_)
    · refine SW.seqRun tok hO (by cbv <;> rfl) (by trivial) ?_
      refine SW.ret ⟨_, _, rfl, rfl, Eqv.bool ?_⟩
      have h3 : 2000 < prN U V (i + 1) := by rw [← hnew]; subst hO; simpa [std] using h2
      unfold manyB allN
      symm
      rw [Bool.not_eq_true', decide_eq_false_iff_not]
      intro hq
      have := hq i hlt
      simp at this; omega
    · have h3 : prN U V (i + 1) ≤ 2000 := by rw [← hnew]; subst hO; simpa [std] using h2
      refine SW.run tok hO (by cbv <;> rfl) (by trivial) ?_
      refine ⟨i + 1, by omega, ⟨by omega, fun j hj => ?_⟩, Weak.by rfl rfl (by simp) (Nat.le_refl _) (by show 1 ≤ 2; omega) ⟨⟨by show AV.lit (.int .i64 (O.bin .mul .i64 acc v)) = _; rw [hnew]; rfl, .inr Below.lit⟩, ⟨rfl, .inr (Below.up (m := 0) (Below.isl fun i k _ _ => by unfold rngC; split <;> exact Below.lit))⟩, ⟨rfl, .inr Below.lit⟩, ⟨inc_ok hO (by omega), .inr Below.lit⟩, trivial⟩ trivial⟩
      rcases Nat.lt_succ_iff_lt_or_eq.1 hj with hj | rfl
      · exact hall j hj
      · exact h3
  · refine SW.seqRun tok hO (by cbv <;> rfl) (by trivial) ?_
    have hge : M ≤ i := by subst hO; simpa [std] using h
    refine SW.ret ⟨_, _, rfl, rfl, Eqv.bool ?_⟩
    unfold manyB allN
    symm
    rw [Bool.not_eq_false', decide_eq_true_eq]
    exact fun j hj => decide_eq_true (hall j (by omega))
def DayD.check (d : DayD) : Int := if d.long then 3 else if d.validB then (if manyB d.ulo d.uhi (d.nw + d.nl) then 3 else 0) else 1
theorem checkDay_ok (d : DayD) (hs : d.small) : Pure Try.prog 40 [dayV d] (iV d.check) := by
  obtain ⟨O, hO⟩ : ∃ O : Ar, O = std := ⟨_, rfl⟩
  have e1 := tooLong_ok d
  have e2 := valid_ok d hs
  have hlong : d.long = false → d.nw ≤ 4 ∧ d.nl ≤ 4 := fun h => by
    simp only [DayD.long, Bool.or_eq_false_iff, decide_eq_false_iff_not, Nat.not_lt] at h; omega
  have hval : d.validB = true → 0 < d.nw := fun h => by
    simp only [DayD.validB, Bool.and_eq_true, decide_eq_true_eq] at h; exact h.1.1.1.2
  have hc : d.check = if d.long then 3 else if d.validB then (if manyB d.ulo d.uhi (d.nw + d.nl) then 3 else 0) else 1 := rfl
  have e3 := tooMany_ok d
  generalize manyB d.ulo d.uhi (d.nw + d.nl) = MM at hc e3
  generalize d.long = L at e1 hlong hc
  generalize d.validB = W at e2 hval hc
  refine pure_of_body tok 3 Try.func40 en40 rfl ⟨dayV_below d, trivial⟩ Below.lit ?_
  refine SW.seqRun tok hO (by cbv <;> rfl) (by trivial) ?_
  refine SW.seq (SW.block ?_)
  refine SW.seqRun tok hO (by cbv <;> rfl) (by trivial) ?_
  refine OpsW.callP e1 (by cbv <;> rfl) ?_
  refine OpsW.run tok hO (by cbv <;> rfl) (by trivial) ?_
  refine SW.condS (by cbv <;> rfl) (fun h1 => ?_) (fun h1 => ?_)
  · refine SW.seqRun tok hO (by cbv <;> rfl) (by trivial) ?_
    refine SW.ret ⟨_, _, rfl, rfl, Eqv.int ?_⟩
    rw [hc, h1]; rfl
  refine SW.seqRun tok hO (by cbv <;> rfl) (by trivial) ?_
  refine OpsW.callP e2 (by cbv <;> rfl) ?_
  have hnot : O.not W = !W := by subst hO; rfl
  refine OpsW.run tok hO (by cbv <;> rfl) (by trivial) ?_
  refine SW.condS (by cbv <;> rfl) (fun h2 => ?_) (fun h2 => ?_)
  · have hw : W = false := by have := hnot.symm.trans h2; simpa using this
    refine SW.seqRun tok hO (by cbv <;> rfl) (by trivial) ?_
    refine SW.ret ⟨_, _, rfl, rfl, Eqv.int ?_⟩
    rw [hc, h1, hw]; rfl
  have hw : W = true := by have := hnot.symm.trans h2; simpa using this
  have e3 := e3 (hval hw) (hlong h1).1 (hlong h1).2
  refine SW.seqRun tok hO (by cbv <;> rfl) (by trivial) ?_
  refine OpsW.callP e3 (by cbv <;> rfl) ?_
  refine OpsW.run tok hO (by cbv <;> rfl) (by trivial) ?_
  refine SW.condS (by cbv <;> rfl) (fun h3 => ?_) (fun h3 => SW.skip ?_)
  · refine SW.seqRun tok hO (by cbv <;> rfl) (by trivial) ?_
    refine SW.ret ⟨_, _, rfl, rfl, Eqv.int ?_⟩
    rw [hc, h1, hw, h3]; rfl
  · refine SW.seqRun tok hO (by cbv <;> rfl) (by trivial) ?_
    refine SW.ret ⟨_, _, rfl, rfl, Eqv.int ?_⟩
    rw [hc, h1, hw, h3]; rfl
end Go.Fz
namespace Go.Fz
open Go.Proofs
set_option maxRecDepth 100000
def dayE (d : DayD) (j : Nat) : AV := match j with
  | 0 => iV d.hand
  | 1 => iV d.flat
  | 2 => womsV d
  | 3 => lotsV d
  | _ => cntsV d
theorem dayE_below (d : DayD) : Below 0 (.ip 5 0 (dayE d)) := Below.ip fun j _ => by
  unfold dayE; split
  · exact Below.lit
  · exact Below.lit
  · exact womsV_below d
  · exact lotsV_below d
  · exact cntsV_below d
theorem fits1_ok (d : DayD) (fl : Nat → Int) (i : Nat) (hi : i < d.nw) : Pure Try.prog 110 [iV i, iV (fl i), .ip 5 0 (dayE d)] (.sb (inB (fl i) (d.wlo i) (d.whi i))) := by
  obtain ⟨O, hO⟩ : ∃ O : Ar, O = std := ⟨_, rfl⟩
  have h0 : (0 : Int) ≤ Int.ofNat i := Int.natCast_nonneg i
  refine pure_of_body tok 3 Try.func110 en110 rfl ⟨Below.lit, Below.lit, dayE_below d, trivial⟩ Below.sb ?_
  refine SW.seqRun tok hO (by cbv <;> rfl) (by trivial) ?_
  refine SW.seqRun tok hO (by cbv <;> rfl) ?_ ?_
  · exact ⟨h0, Int.ofNat_lt.2 hi⟩
  refine OpsW.callB (has_ok (d.wlo (O.nat (Int.ofNat i))) (d.whi (O.nat (Int.ofNat i))) (fl i)) (by cbv <;> rfl) fun b hb => ?_
  refine OpsW.run tok hO (by cbv <;> rfl) (by trivial) ?_
  refine SW.ret ⟨_, _, rfl, rfl, Eqv.sb ?_⟩
  subst hO; exact hb
theorem fits2_ok (d : DayD) (fl : Nat → Int) (i : Nat) (hi : i < d.nl) : Pure Try.prog 112 [iV i, iV (fl i), .ip 5 0 (dayE d)] (.sb (inB (fl i) (d.llo i) (d.lhi i))) := by
  obtain ⟨O, hO⟩ : ∃ O : Ar, O = std := ⟨_, rfl⟩
  have h0 : (0 : Int) ≤ Int.ofNat i := Int.natCast_nonneg i
  refine pure_of_body tok 3 Try.func112 en112 rfl ⟨Below.lit, Below.lit, dayE_below d, trivial⟩ Below.sb ?_
  refine SW.seqRun tok hO (by cbv <;> rfl) (by trivial) ?_
  refine SW.seqRun tok hO (by cbv <;> rfl) ?_ ?_
  · exact ⟨h0, Int.ofNat_lt.2 hi⟩
  refine OpsW.callB (has_ok (d.llo (O.nat (Int.ofNat i))) (d.lhi (O.nat (Int.ofNat i))) (fl i)) (by cbv <;> rfl) fun b hb => ?_
  refine OpsW.run tok hO (by cbv <;> rfl) (by trivial) ?_
  refine SW.ret ⟨_, _, rfl, rfl, Eqv.sb ?_⟩
  subst hO; exact hb
def DayD.fits (d : DayD) (t : TruD) : Bool := decide (t.nf = d.nw) && decide (t.ns = d.nl) && allN t.nf (fun i => inB (t.fe i) (d.wlo i) (d.whi i)) && allN t.ns (fun i => inB (t.st i) (d.llo i) (d.lhi i))
theorem fits_ok (d : DayD) (t : TruD) (hf : t.nf < 1000) (hs : t.ns < 1000) : Pure Try.prog 82 [dayV d, truV t] (.sb (d.fits t)) := by
  obtain ⟨O, hO⟩ : ∃ O : Ar, O = std := ⟨_, rfl⟩
  refine pure_of_body tok 3 Try.func82 en82 rfl ⟨dayV_below d, truV_below t, trivial⟩ Below.sb ?_
  refine SW.seqRun tok hO (by cbv <;> rfl) (by trivial) ?_
  refine SW.seq (SW.runN tok hO 8 (by cbv <;> rfl) (by trivial) ?_)
  refine OpsW.splitG (by cbv <;> rfl) (fun h1 => ?_) (fun h1 => ?_)
  rotate_left
  · refine OpsW.run tok hO (by cbv <;> rfl) (by trivial) ?_
    refine SW.ret ⟨_, _, rfl, rfl, Eqv.bool ?_⟩
    have : ¬ (t.nf : Int) = (d.nw : Int) := by subst hO; simpa [std] using h1
    have : ¬ t.nf = d.nw := by omega
    simp [DayD.fits, this]
  have k1' : (t.nf : Int) = (d.nw : Int) := by subst hO; simpa [std] using h1
  have k1 : t.nf = d.nw := by omega
  refine OpsW.runN tok hO 9 (by cbv <;> rfl) (by trivial) ?_
  refine OpsW.splitG (by cbv <;> rfl) (fun h2 => ?_) (fun h2 => ?_)
  rotate_left
  · refine OpsW.run tok hO (by cbv <;> rfl) (by trivial) ?_
    refine SW.ret ⟨_, _, rfl, rfl, Eqv.bool ?_⟩
    have : ¬ (t.ns : Int) = (d.nl : Int) := by subst hO; simpa [std] using h2
    have : ¬ t.ns = d.nl := by omega
    simp [DayD.fits, this]
  have k2' : (t.ns : Int) = (d.nl : Int) := by subst hO; simpa [std] using h2
  have k2 : t.ns = d.nl := by omega
  refine OpsW.freeze (fun _ => true) 3 (by rfl) ?_
  refine OpsW.runN tok hO 3 (by cbv <;> rfl) (by trivial) ?_
  refine OpsW.callB (Pure.eqv (each64_ok t.nf t.ef t.fe 110 [] [.ip 5 0 (dayE d)] (fun i => inB (t.fe i) (d.wlo i) (d.whi i)) (Below.fn (AllB.ok trivial) (AllB.ok ⟨dayE_below d, trivial⟩)) (by omega) fun i hi => fits1_ok d t.fe i (by omega)) ?_) (by cbv <;> rfl) fun b1 hb1 => ?_
  · refine .cons (Eqv.refl _) (.cons ?_ .nil)
    refine Eqv.fn .nil (.cons (Eqv.ip fun j hj => ?_) .nil)
    match j, hj with
    | 0, _ => exact Eqv.of rfl
    | 1, _ => exact Eqv.of rfl
    | 2, _ => exact Eqv.of rfl
    | 3, _ => exact Eqv.of rfl
    | 4, _ => exact Eqv.of rfl
  refine OpsW.runN tok hO 2 (by cbv <;> rfl) (by trivial) ?_
  refine OpsW.splitG (by cbv <;> rfl) (fun h3 => ?_) (fun h3 => ?_)
  rotate_left
  · refine OpsW.run tok hO (by cbv <;> rfl) (by trivial) ?_
    refine SW.ret ⟨_, _, rfl, rfl, Eqv.bool ?_⟩
    simp only [DayD.fits]; rw [← hb1, h3]; simp
  refine OpsW.runN tok hO 3 (by cbv <;> rfl) (by trivial) ?_
  refine OpsW.callB (Pure.eqv (each64_ok t.ns t.es t.st 112 [] [.ip 5 0 (dayE d)] (fun i => inB (t.st i) (d.llo i) (d.lhi i)) (Below.fn (AllB.ok trivial) (AllB.ok ⟨dayE_below d, trivial⟩)) (by omega) fun i hi => fits2_ok d t.st i (by omega)) ?_) (by cbv <;> rfl) fun b2 hb2 => ?_
  · refine .cons (Eqv.refl _) (.cons ?_ .nil)
    refine Eqv.fn .nil (.cons (Eqv.ip fun j hj => ?_) .nil)
    match j, hj with
    | 0, _ => exact Eqv.of rfl
    | 1, _ => exact Eqv.of rfl
    | 2, _ => exact Eqv.of rfl
    | 3, _ => exact Eqv.of rfl
    | 4, _ => exact Eqv.of rfl
  refine OpsW.run tok hO (by cbv <;> rfl) (by trivial) ?_
  refine SW.ret ⟨_, _, rfl, rfl, Eqv.sb ?_⟩
  simp only [DayD.fits]; rw [← hb1, ← hb2, h3, k1, k2]; simp
def stemN (d : DayD) (st : Nat → Int) (w : Int) : Nat → Int
  | 0 => 0
  | i + 1 => if d.lw i = w then add64 (stemN d st w i) (st i) else stemN d st w i
def pileV (f s : Int) : AV := .agg [iV f, iV s]
theorem pile_ok (d : DayD) (t : TruD) (w : Nat) (hw : w < t.nf) (hs : t.ns ≤ d.nl) (hn : t.ns < 1000) : Pure Try.prog 96 [dayV d, truV t, iV w] (pileV (t.fe w) (stemN d t.st w t.ns)) := by
  obtain ⟨O, hO⟩ : ∃ O : Ar, O = std := ⟨_, rfl⟩
  have hw0 : (0 : Int) ≤ Int.ofNat w := Int.natCast_nonneg w
  refine pure_of_body tok 3 Try.func96 en96 rfl ⟨dayV_below d, truV_below t, Below.lit, trivial⟩ (Below.agg (AllB.ok ⟨Below.lit, Below.lit, trivial⟩)) ?_
  refine SW.seqRun tok hO (by cbv <;> rfl) (by trivial) ?_
  refine SW.seqRun tok hO (by cbv <;> rfl) ?_ ?_
  · exact ⟨hw0, Int.ofNat_lt.2 hw⟩
  have hfe : t.fe (O.nat (Int.ofNat w)) = t.fe w := by subst hO; rfl
  refine SW.seq ?_
  refine SW.seqRun tok hO (by cbv <;> rfl) (by trivial) ?_
  refine (SW.block (SW.loopF (fun i : Nat => ⟨⟨39, getT [(2, iV w), (3, .ptr 0 0), (6, .ptr 2 0), (7, .ptr 3 0), (17, intsV t.ns t.es t.st), (18, iV t.ns), (19, iV i)]⟩, []⟩)
    (fun i => ⟨[(3, .cells none false [iV (t.fe w), iV (stemN d t.st w i)]), (2, .cells none false [iV 0, iV 0]), (0, .cells none false (dayC d))], 4⟩) (fun i => t.ns - i) (fun i => i ≤ t.ns) 0
    (fun _ => rfl) (Nat.zero_le _) (Weak.by rfl rfl (by simp) (Nat.le_refl _) (Nat.le_refl _) ⟨⟨rfl, .inl rfl⟩, ⟨rfl, .inl rfl⟩, ⟨rfl, .inl rfl⟩, ⟨rfl, .inl rfl⟩, ⟨rfl, .inl rfl⟩, ⟨rfl, .inl rfl⟩, ⟨rfl, .inl rfl⟩, trivial⟩ ⟨⟨by subst hO; rfl, by omega, .inl rfl⟩, ⟨rfl, by omega, .inl rfl⟩, ⟨rfl, by omega, .inl rfl⟩, trivial⟩) fun i hi => ?_))
  generalize hacc : stemN d t.st w i = acc
  obtain ⟨F, hF⟩ : ∃ F, F = t.fe w := ⟨_, rfl⟩
  rw [← hF]
  refine SW.seqRun tok hO (by cbv <;> rfl) (by trivial) ?_
  refine SW.seq (SW.condS (by cbv <;> rfl) (fun h => SW.skip ?_) (fun h => SW.exit ?_))
  · have hlt : i < t.ns := by subst hO; simpa [std] using h
    have hi0 : (0 : Int) ≤ Int.ofNat i := Int.natCast_nonneg i
    refine SW.seq (SW.block ?_)
    refine SW.seqRun tok hO (by cbv <;> rfl) ?_ ?_
    · exact ⟨hi0, Int.ofNat_lt.2 hlt⟩
    refine SW.seqRun tok hO (by cbv <;> rfl) ?_ ?_
    · exact ⟨hi0, Int.ofNat_lt.2 (show i < d.nl by omega)⟩
    refine SW.condS (by cbv <;> rfl) (fun h2 => ?_) (fun h2 => SW.skip ?_)
    · refine SW.run tok hO (by cbv <;> rfl) (by trivial) ?_
      refine SW.run tok hO (by cbv <;> rfl) (by trivial) ?_
      have hwl : d.lw i = w := by subst hO; simpa [std] using h2
      have e : stemN d t.st w (i + 1) = add64 acc (t.st i) := by simp only [stemN, hwl, if_true, hacc]
      refine ⟨i + 1, by omega, by omega, Weak.by rfl rfl (by simp) (Nat.le_refl _) (Nat.le_refl _) ⟨⟨rfl, .inl rfl⟩, ⟨rfl, .inl rfl⟩, ⟨rfl, .inl rfl⟩, ⟨rfl, .inl rfl⟩, ⟨rfl, .inl rfl⟩, ⟨rfl, .inl rfl⟩, ⟨inc_ok hO (by omega), .inl rfl⟩, trivial⟩
        ⟨⟨congrArg (fun l => some (AObj.cells none false l)) ?_, by omega, .inl rfl⟩, ⟨rfl, by omega, .inl rfl⟩, ⟨rfl, by omega, .inl rfl⟩, trivial⟩⟩
      rw [e]; subst hO; rfl
    · refine SW.run tok hO (by cbv <;> rfl) (by trivial) ?_
      have hwl : ¬ d.lw i = w := by subst hO; simpa [std] using h2
      have e : stemN d t.st w (i + 1) = acc := by simp only [stemN]; rw [if_neg hwl, hacc]
      refine ⟨i + 1, by omega, by omega, Weak.by rfl rfl (by simp) (Nat.le_refl _) (Nat.le_refl _) ⟨⟨rfl, .inl rfl⟩, ⟨rfl, .inl rfl⟩, ⟨rfl, .inl rfl⟩, ⟨rfl, .inl rfl⟩, ⟨rfl, .inl rfl⟩, ⟨rfl, .inl rfl⟩, ⟨inc_ok hO (by omega), .inl rfl⟩, trivial⟩
        ⟨⟨congrArg (fun l => some (AObj.cells none false l)) ?_, by omega, .inl rfl⟩, ⟨rfl, by omega, .inl rfl⟩, ⟨rfl, by omega, .inl rfl⟩, trivial⟩⟩
      rw [e]; rfl
  · have hz : i = t.ns := by
      have : t.ns ≤ i := by subst hO; simpa [std] using h
      omega
    refine SW.seqRun tok hO (by cbv <;> rfl) (by trivial) ?_
    refine SW.ret ⟨_, _, rfl, rfl, Eqv.agg (.cons (Eqv.int rfl) (.cons (Eqv.int ?_) .nil))⟩
    rw [← hacc, hz]
def quo64 (a b : Int) : Int := wrp .i64 (a.tdiv b)
theorem bunches_ok (f s : Int) (hf : f ≠ 0) : Pure Try.prog 62 [pileV f s] (iV (quo64 s f)) := by
  obtain ⟨O, hO⟩ : ∃ O : Ar, O = std := ⟨_, rfl⟩
  refine pure_of_body tok 3 Try.func62 en62 rfl ⟨Below.agg (AllB.ok ⟨Below.lit, Below.lit, trivial⟩), trivial⟩ Below.lit ?_
  refine SW.seqRun tok hO (by cbv <;> rfl) (by trivial) ?_
  refine SW.seqRun tok hO (by cbv <;> rfl) (by exact hf) ?_
  exact SW.ret ⟨_, _, rfl, rfl, Eqv.int (by subst hO; rfl)⟩
theorem left_ok (f s : Int) (hf : f ≠ 0) : Pure Try.prog 63 [pileV f s] (iV (s.tmod f)) := by
  obtain ⟨O, hO⟩ : ∃ O : Ar, O = std := ⟨_, rfl⟩
  refine pure_of_body tok 3 Try.func63 en63 rfl ⟨Below.agg (AllB.ok ⟨Below.lit, Below.lit, trivial⟩), trivial⟩ Below.lit ?_
  refine SW.seqRun tok hO (by cbv <;> rfl) (by trivial) ?_
  refine SW.seqRun tok hO (by cbv <;> rfl) (by exact hf) ?_
  exact SW.ret ⟨_, _, rfl, rfl, Eqv.int (by subst hO; rfl)⟩
end Go.Fz
namespace Go.Fz
open Go.Proofs
set_option maxRecDepth 100000
def ren2 (r1 m1 r2 m2 : Nat) (j : Nat) : Nat := match Nat.beq j r1 with
  | true => m1
  | false => match Nat.beq j r2 with
    | true => m2
    | false => j
theorem WeakR.up2 {n0 r1 m1 r2 m2 : Nat} {f1 : Fm} {st1 : St} {l : List (Nat × AV)} {len : Nat} {dm : List Nat} {hl : Hp} {n2 : Nat} (F : Nat → Option Nat) (hF : ∀ i j f, F i = some f → F j = some f → i = j) (e1 : len = f1.ts.len) (e2 : dm = f1.dm) (e3 : ∀ id ∈ dm, id < n0) (hr1 : n0 ≤ r1) (hr2 : n0 ≤ r2)
    (hinj : ∀ p ∈ hl, ∀ q ∈ hl, ren2 r1 m1 r2 m2 p.1 = ren2 r1 m1 r2 m2 q.1 → p.1 = q.1) (lo : n0 ≤ n2)
    (get : AllP (fun p => RenV (ren2 r1 m1 r2 m2) n2 p.2 (f1.ts.get p.1)) l) (obj : AllP (fun p => p.1 < n2 ∧ ∃ o1, st1.h.get (ren2 r1 m1 r2 m2 p.1) = some o1 ∧ RenO (ren2 r1 m1 r2 m2) n2 p.2 o1 ∧ o1.fam = F p.1) hl) :
    WeakR n0 (ren2 r1 m1 r2 m2) f1 st1 ⟨⟨len, getT l⟩, dm⟩ ⟨hl, n2⟩ := by
  have ho := obj.ok
  refine ⟨e1, e2, e3, fun j hj => ?_, fun i => ?_, lo, fun id o h => ?_, fun i j oi oj hi hj hij pi pj h1 h2 => ⟨fun h => hij ?_, fun ⟨f, k1, k2⟩ => ?_⟩⟩
  · unfold ren2
    cases hb : Nat.beq j r1 with
    | true => have := Nat.eq_of_beq_eq_true hb; omega
    | false => cases hb2 : Nat.beq j r2 with
      | true => have := Nat.eq_of_beq_eq_true hb2; omega
      | false => rfl
  · show RenV _ n2 (getT l i) _
    have hg := get.ok
    clear get obj ho hinj
    induction l with
    | nil => exact RenV.any
    | cons p r ih =>
      obtain ⟨j, a⟩ := p
      simp only [getT]
      cases hb : Nat.beq j i with
      | true =>
        obtain rfl := Nat.eq_of_beq_eq_true hb
        exact hg _ List.mem_cons_self
      | false => exact ih fun q hq => hg q (List.mem_cons_of_mem _ hq)
  · obtain ⟨h3, o1, h4, h5, _⟩ := ho _ (Hp.mem_of_get h)
    exact ⟨h3, o1, h4, h5⟩
  · exact hinj _ (Hp.mem_of_get hi) _ (Hp.mem_of_get hj) h
  · obtain ⟨_, o1, h3, _, h4⟩ := ho _ (Hp.mem_of_get hi)
    obtain ⟨_, o2, h5, _, h6⟩ := ho _ (Hp.mem_of_get hj)
    rw [show ren2 r1 m1 r2 m2 (i, oi).1 = ren2 r1 m1 r2 m2 i from rfl, h1] at h3
    rw [show ren2 r1 m1 r2 m2 (j, oj).1 = ren2 r1 m1 r2 m2 j from rfl, h2] at h5
    cases h3; cases h5
    exact hij (hF i j f (h4.symm.trans k1) (h6.symm.trans k2))
theorem inj_of {l : Hp} {ρ : Nat → Nat} (h : (l.all fun p => l.all fun q => !(Nat.beq (ρ p.1) (ρ q.1)) || Nat.beq p.1 q.1) = true) : ∀ p ∈ l, ∀ q ∈ l, ρ p.1 = ρ q.1 → p.1 = q.1 := fun p hp q hq he => by
  have h1 := List.all_eq_true.1 (List.all_eq_true.1 h p hp) q hq
  rw [he, Nat.beq_refl] at h1
  exact Nat.eq_of_beq_eq_true (by simpa using h1)
def fam2 (a b : Nat) (i : Nat) : Option Nat := match Nat.beq i a with
  | true => some a
  | false => match Nat.beq i b with
    | true => some b
    | false => none
theorem fam2_inj (a b : Nat) : ∀ i j f, fam2 a b i = some f → fam2 a b j = some f → i = j := fun i j f h1 h2 => by
  have key : ∀ i, fam2 a b i = some f → i = f := fun i h => by
    unfold fam2 at h
    cases hb : Nat.beq i a with
    | true => rw [hb] at h; cases h; exact Nat.eq_of_beq_eq_true hb
    | false =>
      rw [hb] at h
      cases hb2 : Nat.beq i b with
      | true => rw [hb2] at h; cases h; exact Nat.eq_of_beq_eq_true hb2
      | false => rw [hb2] at h; cases h
  exact (key i h1).trans (key j h2).symm
theorem lv_of {O : Ar} (hO : O = std) {ops : Array Oper} {h : Hp} {f : Fm} {i j : Nat} {o : Oper} {c : List Cond} {r : AV} (hp : pickD O T ops [] h f [i] = some (j, o, c, r)) (hc : allC c) : lightV T ops h f i = some r := by
  obtain ⟨h1, _, _, h4⟩ := pickD_ok hO hp
  obtain rfl : j = i := by simpa using h1
  exact h4 (allC_ok hc)
def DayD.bun (d : DayD) (t : TruD) (w : Nat) : Int := quo64 (stemN d t.st w t.ns) (t.fe w)
def DayD.lef (d : DayD) (t : TruD) (w : Nat) : Int := (stemN d t.st w t.ns).tmod (t.fe w)
def sumN (b : Nat → Int) : Nat → Int
  | 0 => 0
  | i + 1 => add64 (sumN b i) (b i)
def DayD.all (d : DayD) (t : TruD) : Int := sumN (d.bun t) d.nw
structure TalD where
  n : Nat
  eb : Bool
  bun : Nat → Int
  el : Bool
  lef : Nat → Int
  hands : Int
  loose : Int
  flats : Int
  spare : Int
def talC (y : TalD) : List AV := [intsV y.n y.eb y.bun, intsV y.n y.el y.lef, iV y.hands, iV y.loose, iV y.flats, iV y.spare]
def talV (y : TalD) : AV := .agg (talC y)
theorem talC_below (y : TalD) : ∀ a ∈ talC y, Below 0 a := AllB.ok ⟨intsV_below _ _ _, intsV_below _ _ _, Below.lit, Below.lit, Below.lit, Below.lit, trivial⟩
theorem talV_below (y : TalD) : Below 0 (talV y) := Below.agg (talC_below y)
def DayD.tally (d : DayD) (t : TruD) : TalD where
  n := d.nw
  eb := false
  bun := d.bun t
  el := false
  lef := d.lef t
  hands := quo64 (d.all t) d.hand
  loose := (d.all t).tmod d.hand
  flats := quo64 (quo64 (d.all t) d.hand) d.flat
  spare := (quo64 (d.all t) d.hand).tmod d.flat
theorem intC_below (fl : Nat → Int) (i k : Nat) : Below 0 (intC fl i k) := Below.lit
theorem intC_one (fl : Nat → Int) (i k : Nat) : (intC fl i k).one = true := rfl
theorem Eqv.nil {sz : Nat} {ex : Bool} {g : Nat → Nat → AV} : Eqv (.lit (.slice none 0 0)) (.isl 0 sz ex g) := fun _ _ hv => by cases hv; exact .isl0 _ _ _
def slG (id sz : Nat) : Nat → AV
  | 0 => .lit (.slice none 0 0)
  | n + 1 => .sl id 0 (n + 1) sz false
def tal0 : List AV := [nl3, nl3, iV 0, iV 0, iV 0, iV 0]
theorem tal0_below : ∀ a ∈ tal0, Below 0 a := AllB.ok ⟨Below.lit, Below.lit, Below.lit, Below.lit, Below.lit, Below.lit, trivial⟩
def talS (d : DayD) (t : TruD) (A B : AV) (H : Hp) : St := ⟨H ++ [(3, .cells none false [A, B, iV 0, iV 0, iV 0, iV 0]), (2, .cells none false tal0), (1, .cells none false (truC t)), (0, .cells none false (dayC d))], 6⟩
def objs2 (b l : Nat → Int) : Nat → Hp
  | 0 => []
  | n + 1 => [(4, .cells none false (flatG 1 (intC b) (n + 1))), (5, .cells none false (flatG 1 (intC l) (n + 1)))]
theorem flatG_snoc (fl : Nat → Int) (n : Nat) (v : Int) (h : v = fl n) : flatG 1 (intC fl) n ++ [iV v] = flatG 1 (intC fl) (n + 1) := by
  rw [h]; rfl
set_option maxHeartbeats 8000000 in
theorem tally_ok (d : DayD) (t : TruD) (hf : t.nf = d.nw) (hs : t.ns = d.nl) (hw : d.nw ≤ 4) (hl : d.nl ≤ 4) (hfe : ∀ w, w < d.nw → t.fe w ≠ 0) (hh : d.hand ≠ 0) (hfl : d.flat ≠ 0) : Pure Try.prog 84 [dayV d, truV t] (talV (d.tally t)) := by
  obtain ⟨O, hO⟩ : ∃ O : Ar, O = std := ⟨_, rfl⟩
  have hnat : ∀ i : Nat, O.nat (Int.ofNat i) = i := fun i => by subst hO; rfl
  refine pure_of_body tok 3 Try.func84 en84 rfl ⟨dayV_below d, truV_below t, trivial⟩ (talV_below _) ?_
  refine SW.seqRun tok hO (by cbv <;> rfl) (by trivial) ?_
  refine SW.seqRun tok hO (by cbv <;> rfl) (by trivial) ?_
  refine SW.seqRun tok hO (by cbv <;> rfl) (by trivial) ?_
  obtain ⟨BU, hBU⟩ : ∃ b, b = d.bun t := ⟨_, rfl⟩
  obtain ⟨LE, hLE⟩ : ∃ b, b = d.lef t := ⟨_, rfl⟩
  have hsum : ∀ i v, v = BU i → O.bin .add .i64 (sumN BU i) v = sumN BU (i + 1) := fun i v hv => by subst hv; subst hO; rfl
  refine SW.seq (SW.mono (Q := fun e fm st => e = .normal ∧ ∃ g A B, fm = ⟨⟨61, g⟩, []⟩ ∧ g 2 = .ptr 0 0 ∧ g 4 = .ptr 2 0 ∧ g 5 = .ptr 3 0 ∧ g 6 = iV (sumN BU d.nw) ∧ Eqv A (intsV d.nw false BU) ∧ Eqv B (intsV d.nw false LE) ∧ (A = nl3 ∨ ∃ len sz h, A = .isl len sz false h) ∧ (B = nl3 ∨ ∃ len sz h, B = .isl len sz false h) ∧ st = talS d t A B []) ?_ ?_)
  · refine SW.seqRun tok hO (by cbv <;> rfl) (by trivial) ?_
    refine (SW.block (SW.loopR (fun i : Nat => ⟨⟨61, getT [(2, .ptr 0 0), (3, .ptr 1 0), (4, .ptr 2 0), (5, .ptr 3 0), (6, iV (sumN BU i)), (11, iV d.nw), (12, iV i)]⟩, []⟩) (fun i => talS d t (slG 4 1 i) (slG 5 1 i) (objs2 BU LE i)) (fun i => d.nw - i) (fun i => i ≤ d.nw) 0 (Nat.zero_le _) (ren2 4 4 5 5) ?_ fun i hi => ?_))
    · refine WeakR.up2 (fun _ => none) (fun _ _ _ h => by cases h) rfl rfl (by simp) (by show 4 ≤ 4; omega) (by show 4 ≤ 5; omega) (inj_of (by rfl)) (by show 4 ≤ 6; omega) ⟨RenV.ptr (by omega), RenV.ptr (by omega), RenV.ptr (by omega), RenV.ptr (by omega), RenV.closed Below.lit, RenV.closed Below.lit, RenV.closed Below.lit, trivial⟩
        ⟨⟨by omega, _, rfl, .cells (RenVs.closed tal0_below), rfl⟩, ⟨by omega, _, rfl, .cells (RenVs.closed tal0_below), rfl⟩, ⟨by omega, _, rfl, .cells (RenVs.closed (truC_below t)), rfl⟩, ⟨by omega, _, rfl, .cells (RenVs.closed (dayC_below d)), rfl⟩, trivial⟩
    have hpile := fun (h : i < d.nw) => pile_ok d t i (by omega) (by omega) (by omega)
    have hb := fun (h : i < d.nw) => bunches_ok (t.fe i) (stemN d t.st i t.ns) (hfe i h)
    have hlf := fun (h : i < d.nw) => left_ok (t.fe i) (stemN d t.st i t.ns) (hfe i h)
    have eb : quo64 (stemN d t.st i t.ns) (t.fe i) = BU i := by rw [hBU]; rfl
    have el : (stemN d t.st i t.ns).tmod (t.fe i) = LE i := by rw [hLE]; rfl
    rw [eb] at hb
    rw [el] at hlf
    generalize hF : t.fe i = F at hpile hb hlf
    generalize hS : stemN d t.st i t.ns = S at hpile hb hlf
    have hsum := hsum i
    obtain ⟨acc, hacc⟩ : ∃ acc, acc = sumN BU i := ⟨_, rfl⟩
    rw [← hacc] at hsum ⊢
    cases i with
    | zero =>
      refine SW.seqRun tok hO (by cbv <;> rfl) (by trivial) ?_
      refine SW.seq (SW.condS (by cbv <;> rfl) (fun h => SW.skip ?_) (fun h => ?_))
      · have hlt : 0 < d.nw := by subst hO; simpa [std] using h
        refine SW.seq (SW.block ?_)
        refine SW.seqRun tok hO (by cbv <;> rfl) (by trivial) ?_
        refine SW.seqRun tok hO (by cbv <;> rfl) (by trivial) ?_
        refine OpsW.callP (hpile hlt) (by cbv <;> rfl) ?_
        refine OpsW.run tok hO (by cbv <;> rfl) (by trivial) ?_
        refine SW.seqRunD tok mixed hO (by rfl) (by cbv <;> rfl) (by trivial) ?_
        refine AnyE.callP (hb hlt) (by cbv <;> rfl) (by cbv <;> rfl) ?_
        refine AnyE.run tok hO (by rfl) (by cbv <;> rfl) (by trivial) ?_
        refine AnyE.effK tok hO (by cbv <;> rfl) (by cbv <;> rfl) (by trivial) ?_ ?_
        · exact ⟨by cbv <;> rfl, by cbv <;> rfl, trivial⟩
        refine AnyE.appNil tok (by cbv <;> rfl) (by cbv <;> rfl) (by rfl) (by kernel_rfl) (by rfl) (by rfl) ?_
        refine AnyE.run tok hO (by rfl) (by cbv <;> rfl) (by trivial) ?_
        refine AnyE.eff tok hO (by cbv <;> rfl) (by cbv <;> rfl) (by trivial) ?_
        refine AnyE.done (by rfl) ?_
        refine SW.seqRunD tok mixed hO (by rfl) (by cbv <;> rfl) (by trivial) ?_
        refine AnyE.callP (hlf hlt) (by cbv <;> rfl) (by cbv <;> rfl) ?_
        refine AnyE.run tok hO (by rfl) (by cbv <;> rfl) (by trivial) ?_
        refine AnyE.effK tok hO (by cbv <;> rfl) (by cbv <;> rfl) (by trivial) ?_ ?_
        · exact ⟨by cbv <;> rfl, by cbv <;> rfl, trivial⟩
        refine AnyE.appNil tok (by cbv <;> rfl) (by cbv <;> rfl) (by rfl) (by kernel_rfl) (by rfl) (by rfl) ?_
        refine AnyE.run tok hO (by rfl) (by cbv <;> rfl) (by trivial) ?_
        refine AnyE.eff tok hO (by cbv <;> rfl) (by cbv <;> rfl) (by trivial) ?_
        refine AnyE.done (by rfl) ?_
        refine SW.run tok hO (by cbv <;> rfl) (by trivial) ?_
        refine OpsW.callP (hb hlt) (by cbv <;> rfl) ?_
        refine OpsW.run tok hO (by cbv <;> rfl) (by trivial) ?_
        refine SW.run tok hO (by cbv <;> rfl) (by trivial) ?_
        refine ⟨1, by omega, by omega, ren2 4 8 5 10, ?_⟩
        refine WeakR.up2 (fun _ => none) (fun _ _ _ h => by cases h) rfl rfl (by simp) (by show 4 ≤ 4; omega) (by show 4 ≤ 5; omega) (inj_of (by rfl)) (by show 4 ≤ 6; omega) ⟨RenV.ptr (by omega), RenV.ptr (by omega), RenV.ptr (by omega), RenV.ptr (by omega), ?_, RenV.closed Below.lit, RenV.inc hO (by omega), trivial⟩
          ⟨⟨by omega, _, rfl, .cells (RenVs.of_eq (by subst hO; rfl) (flatG_below (intC_below _) 1)), rfl⟩, ⟨by omega, _, rfl, .cells (RenVs.of_eq (by subst hO; rfl) (flatG_below (intC_below _) 1)), rfl⟩,
           ⟨by omega, _, rfl, .cells (.cons (RenV.sl (by omega)) (.cons (RenV.sl (by omega)) (RenVs.closed (AllB.ok ⟨Below.lit, Below.lit, Below.lit, Below.lit, trivial⟩)))), rfl⟩, ⟨by omega, _, rfl, .cells (RenVs.closed tal0_below), rfl⟩, ⟨by omega, _, rfl, .cells (RenVs.closed (truC_below t)), rfl⟩, ⟨by omega, _, rfl, .cells (RenVs.closed (dayC_below d)), rfl⟩, trivial⟩
        show RenV _ _ (iV (sumN BU 1)) (.lit (.int .i64 (O.bin .add .i64 acc (BU 0))))
        rw [hsum _ rfl]
        exact RenV.closed Below.lit
      · have hz : d.nw = 0 := by
          have : d.nw ≤ 0 := by subst hO; simpa [std] using h
          omega
        refine SW.exit ⟨rfl, _, nl3, nl3, rfl, rfl, rfl, rfl, ?_, ?_, ?_, .inl rfl, .inl rfl, rfl⟩
        · rw [hz, ← hacc]; rfl
        · rw [hz]; exact Eqv.nil
        · rw [hz]; exact Eqv.nil
    | succ i =>
      obtain ⟨GA, hGA⟩ : ∃ G, G = flatG 1 (intC BU) (i + 1) := ⟨_, rfl⟩
      obtain ⟨GB, hGB⟩ : ∃ G, G = flatG 1 (intC LE) (i + 1) := ⟨_, rfl⟩
      have hobj : objs2 BU LE (i + 1) = [(4, .cells none false GA), (5, .cells none false GB)] := by rw [hGA, hGB]; rfl
      show SW _ _ _ _ _ (talS d t (.sl 4 0 (i + 1) 1 false) (.sl 5 0 (i + 1) 1 false) (objs2 BU LE (i + 1)))
      rw [hobj]
      refine SW.seqRun tok hO (by cbv <;> rfl) (by trivial) ?_
      refine SW.seq (SW.condS (by cbv <;> rfl) (fun h => SW.skip ?_) (fun h => ?_))
      · have hlt : i + 1 < d.nw := by
          have : ((i + 1 : Nat) : Int) < (d.nw : Int) := by subst hO; simpa [std] using h
          omega
        refine SW.seq (SW.block ?_)
        refine SW.seqRun tok hO (by cbv <;> rfl) (by trivial) ?_
        refine SW.seqRun tok hO (by cbv <;> rfl) (by trivial) ?_
        refine OpsW.callP (hpile hlt) (by cbv <;> rfl) ?_
        refine OpsW.run tok hO (by cbv <;> rfl) (by trivial) ?_
        refine SW.seqRunD tok mixed hO (by rfl) (by cbv <;> rfl) (by trivial) ?_
        refine AnyE.callP (hb hlt) (by cbv <;> rfl) (by cbv <;> rfl) ?_
        refine AnyE.run tok hO (by rfl) (by cbv <;> rfl) (by trivial) ?_
        refine AnyE.effK tok hO (by cbv <;> rfl) (by cbv <;> rfl) (by trivial) ?_ ?_
        · exact ⟨by cbv <;> rfl, by cbv <;> rfl, trivial⟩
        refine AnyE.appOne (g := intC BU) tok (by cbv <;> rfl) (by cbv <;> rfl) (by rfl) (by rfl) hGA (by kernel_rfl) (by rfl) (by rfl) (by omega) fun GA' hGA' => ?_
        refine AnyE.run tok hO (by rfl) (by cbv <;> rfl) (by trivial) ?_
        refine AnyE.eff tok hO (by cbv <;> rfl) (by cbv <;> rfl) (by trivial) ?_
        refine AnyE.done (by rfl) ?_
        refine SW.seqRunD tok mixed hO (by rfl) (by cbv <;> rfl) (by trivial) ?_
        refine AnyE.callP (hlf hlt) (by cbv <;> rfl) (by cbv <;> rfl) ?_
        refine AnyE.run tok hO (by rfl) (by cbv <;> rfl) (by trivial) ?_
        refine AnyE.effK tok hO (by cbv <;> rfl) (by cbv <;> rfl) (by trivial) ?_ ?_
        · exact ⟨by cbv <;> rfl, by cbv <;> rfl, trivial⟩
        refine AnyE.appOne (g := intC LE) tok (by cbv <;> rfl) (by cbv <;> rfl) (by rfl) (by rfl) hGB (by kernel_rfl) (by rfl) (by rfl) (by omega) fun GB' hGB' => ?_
        refine AnyE.run tok hO (by rfl) (by cbv <;> rfl) (by trivial) ?_
        refine AnyE.eff tok hO (by cbv <;> rfl) (by cbv <;> rfl) (by trivial) ?_
        refine AnyE.done (by rfl) ?_
        refine SW.run tok hO (by cbv <;> rfl) (by trivial) ?_
        refine OpsW.callP (hb hlt) (by cbv <;> rfl) ?_
        refine OpsW.run tok hO (by cbv <;> rfl) (by trivial) ?_
        refine SW.run tok hO (by cbv <;> rfl) (by trivial) ?_
        refine ⟨i + 1 + 1, by omega, by omega, ren2 4 8 5 10, ?_⟩
        refine WeakR.up2 (fam2 4 5) (fam2_inj 4 5) rfl rfl (by simp) (by show 4 ≤ 4; omega) (by show 4 ≤ 5; omega) (inj_of (by rfl)) (by show 4 ≤ 6; omega) ⟨RenV.ptr (by omega), RenV.ptr (by omega), RenV.ptr (by omega), RenV.ptr (by omega), ?_, RenV.closed Below.lit, RenV.inc hO (by omega), trivial⟩
          ⟨⟨by omega, _, rfl, .cells (RenVs.of_eq (hGA'.trans (flatG_snoc BU (i + 1) _ rfl)) (flatG_below (intC_below _) _)), rfl⟩, ⟨by omega, _, rfl, .cells (RenVs.of_eq (hGB'.trans (flatG_snoc LE (i + 1) _ rfl)) (flatG_below (intC_below _) _)), rfl⟩,
           ⟨by omega, _, rfl, .cells (.cons (RenV.sl (by omega)) (.cons (RenV.sl (by omega)) (RenVs.closed (AllB.ok ⟨Below.lit, Below.lit, Below.lit, Below.lit, trivial⟩)))), rfl⟩, ⟨by omega, _, rfl, .cells (RenVs.closed tal0_below), rfl⟩, ⟨by omega, _, rfl, .cells (RenVs.closed (truC_below t)), rfl⟩, ⟨by omega, _, rfl, .cells (RenVs.closed (dayC_below d)), rfl⟩, trivial⟩
        show RenV _ _ (iV (sumN BU (i + 1 + 1))) (.lit (.int .i64 (O.bin .add .i64 acc (BU (i + 1)))))
        rw [hsum _ rfl]
        exact RenV.closed Below.lit
      · have hz : d.nw = i + 1 := by
          have : (d.nw : Int) ≤ ((i + 1 : Nat) : Int) := by subst hO; simpa [std] using h
          omega
        have hlA : (i + 1) * 1 ≤ GA.length := by rw [hGA, flatG_length]; omega
        have hlB : (i + 1) * 1 ≤ GB.length := by rw [hGB, flatG_length]; omega
        refine SW.freezeZ (fun j => Nat.beq j 4 || Nat.beq j 5) 3 (by rfl) (SW.exit ⟨rfl, _, _, _, rfl, rfl, rfl, rfl, ?_, ?_, ?_, ?_, ?_, rfl⟩)
        · rw [hz, ← hacc]; rfl
        · show Eqv (frz _ _ 3 (.sl 4 0 (i + 1) 1 false)) _
          rw [hz, frz_slE (fm := none) (G := GA) rfl rfl hlA, hGA]
          exact Eqv.isl rfl fun i' k hi' hk => Eqv.of (frz_flat hi' hk rfl)
        · show Eqv (frz _ _ 3 (.sl 5 0 (i + 1) 1 false)) _
          rw [hz, frz_slE (fm := none) (G := GB) rfl rfl hlB, hGB]
          exact Eqv.isl rfl fun i' k hi' hk => Eqv.of (frz_flat hi' hk rfl)
        · exact .inr ⟨_, _, _, frz_slE (fm := none) (G := GA) rfl rfl hlA⟩
        · exact .inr ⟨_, _, _, frz_slE (fm := none) (G := GB) rfl rfl hlB⟩
  · rintro e fm st ⟨rfl, g, A, B, rfl, g2, g4, g5, g6, hA, hB', fA, fB, rfl⟩
    have hall : d.all t = sumN BU d.nw := by rw [hBU]; rfl
    have hres : ∀ x y z u : Int, x = quo64 (sumN BU d.nw) d.hand → y = (sumN BU d.nw).tmod d.hand → z = quo64 (quo64 (sumN BU d.nw) d.hand) d.flat → u = (quo64 (sumN BU d.nw) d.hand).tmod d.flat → Eqv (.agg [A, B, iV x, iV y, iV z, iV u]) (talV (d.tally t)) := fun x y z u hx hy hz hu => by
      subst hx; subst hy; subst hz; subst hu
      unfold talV talC DayD.tally
      rw [hall, ← hBU, ← hLE]
      exact Eqv.agg (.cons hA (.cons hB' (.cons (Eqv.refl _) (.cons (Eqv.refl _) (.cons (Eqv.refl _) (.cons (Eqv.refl _) .nil))))))
    generalize sumN BU d.nw = al at g6 hres
    rw [← updT_self g2, ← updT_self g4, ← updT_self g5, ← updT_self g6]
    rcases fA with rfl | ⟨la, sa, ha, rfl⟩ <;> rcases fB with rfl | ⟨lb, sb, hb2, rfl⟩
    all_goals
      refine SW.seqRunD tok mixed hO (by rfl) (by cbv <;> rfl) ?_ ?_
      · first | exact hh | exact ⟨hh, hh⟩
      refine AnyE.effK tok hO (by cbv <;> rfl) (by cbv <;> rfl) (by trivial) ?_ ?_
      · exact ⟨by refine lv_of hO (by cbv <;> rfl) ?_; exact hh, by cbv <;> rfl, by cbv <;> rfl, by cbv <;> rfl, trivial⟩
      refine AnyE.run tok hO (by rfl) (by cbv <;> rfl) (by trivial) ?_
      refine AnyE.eff tok hO (by cbv <;> rfl) (by cbv <;> rfl) (by trivial) ?_
      refine AnyE.done (by rfl) ?_
      refine SW.seqRunD tok mixed hO (by rfl) (by cbv <;> rfl) ?_ ?_
      · first | exact hfl | exact ⟨hfl, hfl⟩
      refine AnyE.effK tok hO (by cbv <;> rfl) (by cbv <;> rfl) (by trivial) ?_ ?_
      · exact ⟨by refine lv_of hO (by cbv <;> rfl) ?_; exact hfl, by cbv <;> rfl, by cbv <;> rfl, trivial⟩
      refine AnyE.run tok hO (by rfl) (by cbv <;> rfl) (by trivial) ?_
      refine AnyE.eff tok hO (by cbv <;> rfl) (by cbv <;> rfl) (by trivial) ?_
      refine AnyE.done (by rfl) ?_
      refine SW.seqRun tok hO (by cbv <;> rfl) (by trivial) ?_
      refine SW.ret ⟨_, _, rfl, rfl, ?_⟩
      exact hres _ _ _ _ (by subst hO; rfl) (by subst hO; rfl) (by subst hO; rfl) (by subst hO; rfl)
end Go.Fz
namespace Go.Fz
open Go.Proofs
set_option maxRecDepth 100000
theorem m98_ok (y : TalD) (w : Nat) (hw : w < y.n) : Pure Try.prog 129 [talV y, iV w] (iV (y.bun w)) := by
  obtain ⟨O, hO⟩ : ∃ O : Ar, O = std := ⟨_, rfl⟩
  have hw0 : (0 : Int) ≤ Int.ofNat w := Int.natCast_nonneg w
  refine pure_of_body tok 3 Try.func129 en129 rfl ⟨talV_below y, Below.lit, trivial⟩ Below.lit ?_
  refine SW.seqRun tok hO (by cbv <;> rfl) (by trivial) ?_
  refine SW.seqRun tok hO (by cbv <;> rfl) ?_ ?_
  · exact ⟨hw0, Int.ofNat_lt.2 hw⟩
  exact SW.ret ⟨_, _, rfl, rfl, Eqv.int (by subst hO; rfl)⟩
theorem m99_ok (y : TalD) (w : Nat) (hw : w < y.n) : Pure Try.prog 130 [talV y, iV w] (iV (y.lef w)) := by
  obtain ⟨O, hO⟩ : ∃ O : Ar, O = std := ⟨_, rfl⟩
  have hw0 : (0 : Int) ≤ Int.ofNat w := Int.natCast_nonneg w
  refine pure_of_body tok 3 Try.func130 en130 rfl ⟨talV_below y, Below.lit, trivial⟩ Below.lit ?_
  refine SW.seqRun tok hO (by cbv <;> rfl) (by trivial) ?_
  refine SW.seqRun tok hO (by cbv <;> rfl) ?_ ?_
  · exact ⟨hw0, Int.ofNat_lt.2 hw⟩
  exact SW.ret ⟨_, _, rfl, rfl, Eqv.int (by subst hO; rfl)⟩
theorem m100_ok (y : TalD) (w : Int) : Pure Try.prog 131 [talV y, iV w] (iV y.hands) := by
  obtain ⟨O, hO⟩ : ∃ O : Ar, O = std := ⟨_, rfl⟩
  refine pure_of_body tok 3 Try.func131 en131 rfl ⟨talV_below y, Below.lit, trivial⟩ Below.lit ?_
  refine SW.seqRun tok hO (by cbv <;> rfl) (by trivial) ?_
  refine SW.seqRun tok hO (by cbv <;> rfl) (by trivial) ?_
  exact SW.ret ⟨_, _, rfl, rfl, Eqv.refl _⟩
theorem m101_ok (y : TalD) (w : Int) : Pure Try.prog 132 [talV y, iV w] (iV y.loose) := by
  obtain ⟨O, hO⟩ : ∃ O : Ar, O = std := ⟨_, rfl⟩
  refine pure_of_body tok 3 Try.func132 en132 rfl ⟨talV_below y, Below.lit, trivial⟩ Below.lit ?_
  refine SW.seqRun tok hO (by cbv <;> rfl) (by trivial) ?_
  refine SW.seqRun tok hO (by cbv <;> rfl) (by trivial) ?_
  exact SW.ret ⟨_, _, rfl, rfl, Eqv.refl _⟩
theorem m102_ok (y : TalD) (w : Int) : Pure Try.prog 133 [talV y, iV w] (iV y.flats) := by
  obtain ⟨O, hO⟩ : ∃ O : Ar, O = std := ⟨_, rfl⟩
  refine pure_of_body tok 3 Try.func133 en133 rfl ⟨talV_below y, Below.lit, trivial⟩ Below.lit ?_
  refine SW.seqRun tok hO (by cbv <;> rfl) (by trivial) ?_
  refine SW.seqRun tok hO (by cbv <;> rfl) (by trivial) ?_
  exact SW.ret ⟨_, _, rfl, rfl, Eqv.refl _⟩
theorem m103_ok (y : TalD) (w : Int) : Pure Try.prog 134 [talV y, iV w] (iV y.spare) := by
  obtain ⟨O, hO⟩ : ∃ O : Ar, O = std := ⟨_, rfl⟩
  refine pure_of_body tok 3 Try.func134 en134 rfl ⟨talV_below y, Below.lit, trivial⟩ Below.lit ?_
  refine SW.seqRun tok hO (by cbv <;> rfl) (by trivial) ?_
  refine SW.seqRun tok hO (by cbv <;> rfl) (by trivial) ?_
  exact SW.ret ⟨_, _, rfl, rfl, Eqv.refl _⟩
theorem right0_ok (y : TalD) (w : Nat) (hw : w < y.n) (lo hi : Int) : Pure Try.prog 113 [.agg [iV 0, iV w, iV lo, iV hi], talV y] (.sb (inB (y.bun w) lo hi)) := by
  obtain ⟨O, hO⟩ : ∃ O : Ar, O = std := ⟨_, rfl⟩
  refine pure_of_body tok 3 Try.func113 en113 rfl ⟨Below.agg (AllB.ok ⟨Below.lit, Below.lit, Below.lit, Below.lit, trivial⟩), talV_below y, trivial⟩ Below.sb ?_
  refine SW.seqRun tok hO (by cbv <;> rfl) (by trivial) ?_
  refine SW.seqRunD tok mixed hO (by rfl) (by cbv <;> rfl) (by trivial) ?_
  refine AnyE.callP (kind0_ok w lo hi) (by cbv <;> rfl) (by cbv <;> rfl) ?_
  refine AnyE.run tok hO (by rfl) (by cbv <;> rfl) (by trivial) ?_
  refine AnyE.callP (m98_ok y w hw) (by cbv <;> rfl) (by cbv <;> rfl) ?_
  refine AnyE.run tok hO (by rfl) (by cbv <;> rfl) (by trivial) ?_
  have hc := has_ok lo hi (y.bun w)
  generalize inB (y.bun w) lo hi = b at hc
  refine AnyE.callP hc (by cbv <;> rfl) (by cbv <;> rfl) ?_
  refine AnyE.run tok hO (by rfl) (by cbv <;> rfl) (by trivial) ?_
  exact SW.ret ⟨_, _, rfl, rfl, Eqv.refl _⟩
theorem right1_ok (y : TalD) (w : Nat) (hw : w < y.n) (lo hi : Int) : Pure Try.prog 113 [.agg [iV 1, iV w, iV lo, iV hi], talV y] (.sb (inB (y.lef w) lo hi)) := by
  obtain ⟨O, hO⟩ : ∃ O : Ar, O = std := ⟨_, rfl⟩
  refine pure_of_body tok 3 Try.func113 en113 rfl ⟨Below.agg (AllB.ok ⟨Below.lit, Below.lit, Below.lit, Below.lit, trivial⟩), talV_below y, trivial⟩ Below.sb ?_
  refine SW.seqRun tok hO (by cbv <;> rfl) (by trivial) ?_
  refine SW.seqRunD tok mixed hO (by rfl) (by cbv <;> rfl) (by trivial) ?_
  refine AnyE.callP (kind1_ok w lo hi) (by cbv <;> rfl) (by cbv <;> rfl) ?_
  refine AnyE.run tok hO (by rfl) (by cbv <;> rfl) (by trivial) ?_
  refine AnyE.callP (m99_ok y w hw) (by cbv <;> rfl) (by cbv <;> rfl) ?_
  refine AnyE.run tok hO (by rfl) (by cbv <;> rfl) (by trivial) ?_
  have hc := has_ok lo hi (y.lef w)
  generalize inB (y.lef w) lo hi = b at hc
  refine AnyE.callP hc (by cbv <;> rfl) (by cbv <;> rfl) ?_
  refine AnyE.run tok hO (by rfl) (by cbv <;> rfl) (by trivial) ?_
  exact SW.ret ⟨_, _, rfl, rfl, Eqv.refl _⟩
theorem right2_ok (y : TalD) (w : Int) (lo hi : Int) : Pure Try.prog 113 [.agg [iV 2, iV w, iV lo, iV hi], talV y] (.sb (inB (y.hands) lo hi)) := by
  obtain ⟨O, hO⟩ : ∃ O : Ar, O = std := ⟨_, rfl⟩
  refine pure_of_body tok 3 Try.func113 en113 rfl ⟨Below.agg (AllB.ok ⟨Below.lit, Below.lit, Below.lit, Below.lit, trivial⟩), talV_below y, trivial⟩ Below.sb ?_
  refine SW.seqRun tok hO (by cbv <;> rfl) (by trivial) ?_
  refine SW.seqRunD tok mixed hO (by rfl) (by cbv <;> rfl) (by trivial) ?_
  refine AnyE.callP (kind2_ok w lo hi) (by cbv <;> rfl) (by cbv <;> rfl) ?_
  refine AnyE.run tok hO (by rfl) (by cbv <;> rfl) (by trivial) ?_
  refine AnyE.callP (m100_ok y w) (by cbv <;> rfl) (by cbv <;> rfl) ?_
  refine AnyE.run tok hO (by rfl) (by cbv <;> rfl) (by trivial) ?_
  have hc := has_ok lo hi (y.hands)
  generalize inB (y.hands) lo hi = b at hc
  refine AnyE.callP hc (by cbv <;> rfl) (by cbv <;> rfl) ?_
  refine AnyE.run tok hO (by rfl) (by cbv <;> rfl) (by trivial) ?_
  exact SW.ret ⟨_, _, rfl, rfl, Eqv.refl _⟩
theorem right3_ok (y : TalD) (w : Int) (lo hi : Int) : Pure Try.prog 113 [.agg [iV 3, iV w, iV lo, iV hi], talV y] (.sb (inB (y.loose) lo hi)) := by
  obtain ⟨O, hO⟩ : ∃ O : Ar, O = std := ⟨_, rfl⟩
  refine pure_of_body tok 3 Try.func113 en113 rfl ⟨Below.agg (AllB.ok ⟨Below.lit, Below.lit, Below.lit, Below.lit, trivial⟩), talV_below y, trivial⟩ Below.sb ?_
  refine SW.seqRun tok hO (by cbv <;> rfl) (by trivial) ?_
  refine SW.seqRunD tok mixed hO (by rfl) (by cbv <;> rfl) (by trivial) ?_
  refine AnyE.callP (kind3_ok w lo hi) (by cbv <;> rfl) (by cbv <;> rfl) ?_
  refine AnyE.run tok hO (by rfl) (by cbv <;> rfl) (by trivial) ?_
  refine AnyE.callP (m101_ok y w) (by cbv <;> rfl) (by cbv <;> rfl) ?_
  refine AnyE.run tok hO (by rfl) (by cbv <;> rfl) (by trivial) ?_
  have hc := has_ok lo hi (y.loose)
  generalize inB (y.loose) lo hi = b at hc
  refine AnyE.callP hc (by cbv <;> rfl) (by cbv <;> rfl) ?_
  refine AnyE.run tok hO (by rfl) (by cbv <;> rfl) (by trivial) ?_
  exact SW.ret ⟨_, _, rfl, rfl, Eqv.refl _⟩
theorem right4_ok (y : TalD) (w : Int) (lo hi : Int) : Pure Try.prog 113 [.agg [iV 4, iV w, iV lo, iV hi], talV y] (.sb (inB (y.flats) lo hi)) := by
  obtain ⟨O, hO⟩ : ∃ O : Ar, O = std := ⟨_, rfl⟩
  refine pure_of_body tok 3 Try.func113 en113 rfl ⟨Below.agg (AllB.ok ⟨Below.lit, Below.lit, Below.lit, Below.lit, trivial⟩), talV_below y, trivial⟩ Below.sb ?_
  refine SW.seqRun tok hO (by cbv <;> rfl) (by trivial) ?_
  refine SW.seqRunD tok mixed hO (by rfl) (by cbv <;> rfl) (by trivial) ?_
  refine AnyE.callP (kind4_ok w lo hi) (by cbv <;> rfl) (by cbv <;> rfl) ?_
  refine AnyE.run tok hO (by rfl) (by cbv <;> rfl) (by trivial) ?_
  refine AnyE.callP (m102_ok y w) (by cbv <;> rfl) (by cbv <;> rfl) ?_
  refine AnyE.run tok hO (by rfl) (by cbv <;> rfl) (by trivial) ?_
  have hc := has_ok lo hi (y.flats)
  generalize inB (y.flats) lo hi = b at hc
  refine AnyE.callP hc (by cbv <;> rfl) (by cbv <;> rfl) ?_
  refine AnyE.run tok hO (by rfl) (by cbv <;> rfl) (by trivial) ?_
  exact SW.ret ⟨_, _, rfl, rfl, Eqv.refl _⟩
theorem right5_ok (y : TalD) (w : Int) (lo hi : Int) : Pure Try.prog 113 [.agg [iV 5, iV w, iV lo, iV hi], talV y] (.sb (inB (y.spare) lo hi)) := by
  obtain ⟨O, hO⟩ : ∃ O : Ar, O = std := ⟨_, rfl⟩
  refine pure_of_body tok 3 Try.func113 en113 rfl ⟨Below.agg (AllB.ok ⟨Below.lit, Below.lit, Below.lit, Below.lit, trivial⟩), talV_below y, trivial⟩ Below.sb ?_
  refine SW.seqRun tok hO (by cbv <;> rfl) (by trivial) ?_
  refine SW.seqRunD tok mixed hO (by rfl) (by cbv <;> rfl) (by trivial) ?_
  refine AnyE.callP (kind5_ok w lo hi) (by cbv <;> rfl) (by cbv <;> rfl) ?_
  refine AnyE.run tok hO (by rfl) (by cbv <;> rfl) (by trivial) ?_
  refine AnyE.callP (m103_ok y w) (by cbv <;> rfl) (by cbv <;> rfl) ?_
  refine AnyE.run tok hO (by rfl) (by cbv <;> rfl) (by trivial) ?_
  have hc := has_ok lo hi (y.spare)
  generalize inB (y.spare) lo hi = b at hc
  refine AnyE.callP hc (by cbv <;> rfl) (by cbv <;> rfl) ?_
  refine AnyE.run tok hO (by rfl) (by cbv <;> rfl) (by trivial) ?_
  exact SW.ret ⟨_, _, rfl, rfl, Eqv.refl _⟩
def TalD.cnt (y : TalD) (k w : Int) : Int := if k = 0 then y.bun w.toNat else if k = 1 then y.lef w.toNat else if k = 2 then y.hands else if k = 3 then y.loose else if k = 4 then y.flats else y.spare
def DayD.rightB (d : DayD) (y : TalD) (i : Nat) : Bool := inB (y.cnt (d.ck i) (d.cw i)) (d.clo i) (d.chi i)
theorem right_ok (d : DayD) (y : TalD) (i : Nat) (h0 : 0 ≤ d.ck i) (h6 : d.ck i < 6) (hw0 : 0 ≤ d.cw i) (hw : d.cw i < y.n) : Pure Try.prog 113 [cntV d i, talV y] (.sb (d.rightB y i)) := by
  have hc : d.ck i = 0 ∨ d.ck i = 1 ∨ d.ck i = 2 ∨ d.ck i = 3 ∨ d.ck i = 4 ∨ d.ck i = 5 := by omega
  obtain ⟨w, hwn⟩ := Int.eq_ofNat_of_zero_le hw0
  unfold cntV DayD.rightB
  rcases hc with h | h | h | h | h | h <;> rw [h]
  · rw [hwn]; exact right0_ok y w (by omega) _ _
  · rw [hwn]; exact right1_ok y w (by omega) _ _
  · exact right2_ok y _ _ _
  · exact right3_ok y _ _ _
  · exact right4_ok y _ _ _
  · exact right5_ok y _ _ _
def cells5B (M : Nat → Bool) : List AV := [.sb (M 0), .sb (M 1), .sb (M 2), .sb (M 3), .sb (M 4)]
theorem cells5B_below (n : Nat) (M : Nat → Bool) : ∀ a ∈ cells5B M, Below n a := AllB.ok ⟨Below.sb, Below.sb, Below.sb, Below.sb, Below.sb, trivial⟩
def wrM (r : Nat → Bool) (i j : Nat) : Bool := decide (j < i) && !(r j)
theorem wrongIn_ok (d : DayD) (y : TalD) (hn : d.nc ≤ 5) (hok : ∀ i, i < d.nc → 0 ≤ d.ck i ∧ d.ck i < 6 ∧ 0 ≤ d.cw i ∧ d.cw i < y.n) : Pure Try.prog 83 [dayV d, talV y] (.agg (cells5B (wrM (d.rightB y) d.nc))) := by
  obtain ⟨O, hO⟩ : ∃ O : Ar, O = std := ⟨_, rfl⟩
  have hnat : ∀ i : Nat, O.nat (Int.ofNat i) = i := fun i => by subst hO; rfl
  have hr := fun i (h : i < d.nc) => right_ok d y i (hok i h).1 (hok i h).2.1 (hok i h).2.2.1 (hok i h).2.2.2
  generalize d.rightB y = R at hr
  refine pure_of_body tok 3 Try.func83 en83 rfl ⟨dayV_below d, talV_below y, trivial⟩ (Below.agg (cells5B_below 0 _)) ?_
  refine SW.seqRun tok hO (by cbv <;> rfl) (by trivial) ?_
  refine SW.seqRun tok hO (by cbv <;> rfl) (by trivial) ?_
  refine SW.seq ?_
  refine SW.seqRun tok hO (by cbv <;> rfl) (by trivial) ?_
  refine (SW.block (SW.loopF (fun i : Nat => ⟨⟨24, getT [(3, .ptr 1 0), (4, .ptr 2 0), (5, .ptr 3 0), (9, cntsV d), (10, iV d.nc), (11, iV i)]⟩, []⟩)
    (fun i => ⟨[(3, .cells none false (cells5B (wrM R i))), (2, .cells none false (cells5B fun _ => false)), (1, .cells none false (talC y))], 4⟩) (fun i => d.nc - i) (fun i => i ≤ d.nc) 0
    (fun _ => rfl) (Nat.zero_le _) (Weak.by rfl rfl (by simp) (Nat.le_refl _) (Nat.le_refl _) ⟨⟨rfl, .inl rfl⟩, ⟨rfl, .inl rfl⟩, ⟨rfl, .inl rfl⟩, ⟨rfl, .inl rfl⟩, ⟨rfl, .inl rfl⟩, ⟨rfl, .inl rfl⟩, trivial⟩ ⟨⟨rfl, by omega, .inl rfl⟩, ⟨rfl, by omega, .inl rfl⟩, ⟨rfl, by omega, .inl rfl⟩, trivial⟩) fun i hi => ?_))
  generalize hM : wrM R i = M
  refine SW.seqRun tok hO (by cbv <;> rfl) (by trivial) ?_
  refine SW.seq (SW.condS (by cbv <;> rfl) (fun h => SW.skip ?_) (fun h => SW.exit ?_))
  · have hlt : i < d.nc := by subst hO; simpa [std] using h
    have hi0 : (0 : Int) ≤ Int.ofNat i := Int.natCast_nonneg i
    refine SW.seq (SW.block ?_)
    refine SW.seqRun tok hO (by cbv <;> rfl) ?_ ?_
    · exact ⟨hi0, Int.ofNat_lt.2 hlt⟩
    refine SW.run tok hO (by cbv <;> rfl) (by trivial) ?_
    have hri := hr i hlt
    rw [← hnat i] at hri
    unfold cntV at hri
    refine OpsW.callP hri (by cbv <;> rfl) ?_
    rw [hnat i]
    generalize hb : R i = b
    refine OpsW.run tok hO (by cbv <;> rfl) ?_ ?_
    · exact ⟨by show O.nat (Int.ofNat i) < 5; rw [hnat]; omega, hi0, Int.ofNat_lt.2 (show i < 5 by omega)⟩
    refine SW.run tok hO (by cbv <;> rfl) (by trivial) ?_
    have hk : ∀ j, O.upsB j (O.nat (Int.ofNat i)) (O.not b) (M j) = wrM R (i + 1) j := fun j => by
      rw [hnat, ← hM, ← hb]; subst hO
      simp only [std, wrM]
      by_cases e : i = j
      · subst e; simp
      · rw [if_neg e]
        by_cases e2 : j < i
        · simp [e2, show j < i + 1 by omega]
        · simp [e2, show ¬ j < i + 1 by omega]
    refine ⟨i + 1, by omega, by omega, Weak.by rfl rfl (by simp) (Nat.le_refl _) (by show 4 ≤ 5; omega) ⟨⟨rfl, .inr (Below.ptr (by omega))⟩, ⟨rfl, .inr (Below.ptr (by omega))⟩, ⟨rfl, .inr (Below.ptr (by omega))⟩, ⟨rfl, .inr (Below.up (m := 0) (cntsV_below d))⟩, ⟨rfl, .inr Below.lit⟩, ⟨inc_ok hO (by omega), .inr Below.lit⟩, trivial⟩
      ⟨⟨congrArg (fun l => some (AObj.cells none false l)) ?_, by omega, .inr ⟨cells5B_below 4 _, fun _ h => by cases h⟩⟩, ⟨rfl, by omega, .inr ⟨cells5B_below 4 _, fun _ h => by cases h⟩⟩, ⟨rfl, by omega, .inr ⟨fun a ha => Below.up (m := 0) (talC_below y a ha), fun _ h => by cases h⟩⟩, trivial⟩⟩
    simp only [cells5B, ← hk]
  · refine SW.seqRun tok hO (by cbv <;> rfl) (by trivial) ?_
    have hge : d.nc ≤ i := by subst hO; simpa [std] using h
    have : i = d.nc := by omega
    subst hM
    rw [← this]
    refine SW.ret ⟨_, _, rfl, rfl, Eqv.of rfl⟩
end Go.Fz
