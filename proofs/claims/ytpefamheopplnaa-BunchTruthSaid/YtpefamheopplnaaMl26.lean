/- Own work of the verifier of watercress: FzTr1, FzTr2, FzTr3. -/
import Derived.Test.YtpefamheopplnaaMl25
import Derived.Test.YtpefamheopplnaaMl13
import Derived.Test.YtpefamheopplnaaMl21
import Derived.Test.YtpefamheopplnaaMl23
set_option linter.unusedVariables false
set_option linter.unusedSimpArgs false
namespace Go.Fz
open Go.Proofs
set_option maxRecDepth 100000
set_option linter.unusedVariables false
theorem sumN_succ {b : Nat → Int} {M : Nat} (h : ∀ i, i < M → 0 ≤ b i ∧ b i ≤ 20000) (h4 : M ≤ 4) {n : Nat} (hn : n < M) : sumN b (n + 1) = sumN b n + b n := by
  obtain ⟨h1, h2⟩ := sumN_bound h n (by omega) (by omega)
  have h3 := h n hn
  exact add64_in _ _ (by omega) (by omega)
theorem stem_step {d : DayD} (g : d.Good) {t : TruD} (h : d.fits t = true) {j : Nat} (hj : j < d.nl) : ∀ n, n ≤ d.nw →
    sumN (fun w => stemN d t.st w (j + 1)) n = sumN (fun w => stemN d t.st w j) n + (if d.lw j < n then t.st j else 0) := by
  have s1 : ∀ i, i < d.nl → 0 ≤ t.st i ∧ t.st i ≤ 5000 := fun i hi => by
    obtain ⟨_, _, _, h4⟩ := fits_true h
    have := h4 i hi; have := g.lot i hi; omega
  have hnl := g.nl
  have hnw := g.nw
  have hb : ∀ i, i ≤ d.nl → ∀ w : Nat, w < d.nw → 0 ≤ stemN d t.st w i ∧ stemN d t.st w i ≤ 20000 := fun i hi w hw => by
    obtain ⟨a, b⟩ := stemN_bound s1 w i hi (by omega)
    omega
  have hlw := (g.lot j hj).1
  intro n
  induction n with
  | zero => intro _; rw [if_neg (by omega)]; rfl
  | succ n ih =>
    intro hn
    rw [sumN_succ (b := fun w => stemN d t.st w (j + 1)) (hb (j + 1) hj) hnw (by omega), sumN_succ (b := fun w => stemN d t.st w j) (hb j (by omega)) hnw (by omega), ih (by omega)]
    have hs : stemN d t.st (n : Int) (j + 1) = stemN d t.st (n : Int) j + (if d.lw j = n then t.st j else 0) := by
      show (if d.lw j = n then add64 (stemN d t.st n j) (t.st j) else stemN d t.st n j) = _
      have h1 := hb j (by omega) n (by omega)
      have h2 := s1 j hj
      by_cases e : d.lw j = n
      · rw [if_pos e, if_pos e]; exact add64_in _ _ (by omega) (by omega)
      · rw [if_neg e, if_neg e]; omega
    show _ + _ + stemN d t.st (n : Int) (j + 1) = _
    rw [hs]
    by_cases e1 : d.lw j < n
    · rw [if_pos e1, if_neg (by omega), if_pos (by omega)]; omega
    · by_cases e2 : d.lw j = n
      · rw [if_neg e1, if_pos e2, if_pos (by omega)]; omega
      · rw [if_neg e1, if_neg e2, if_neg (by omega)]; omega
theorem stem_total {d : DayD} (g : d.Good) {t : TruD} (h : d.fits t = true) : ∀ j, j ≤ d.nl → sumN (fun w => stemN d t.st w j) d.nw ≤ 5000 * j := by
  intro j
  induction j with
  | zero =>
    intro _
    have hz : ∀ n, sumN (fun w => stemN d t.st w 0) n = 0 := fun n => by
      induction n with
      | zero => rfl
      | succ n ih => show add64 (sumN _ n) 0 = 0; rw [ih]; rfl
    rw [hz]; omega
  | succ j ih =>
    intro hj
    rw [stem_step g h hj d.nw (Nat.le_refl _)]
    have h1 := ih (by omega)
    obtain ⟨_, _, _, h4⟩ := fits_true h
    have h2 := h4 j hj
    have h3 := g.lot j hj
    split <;> omega
theorem all_le {d : DayD} (g : d.Good) {t : TruD} (h : d.fits t = true) : 0 ≤ d.all t ∧ d.all t ≤ 20000 := by
  obtain ⟨b1, b2, b3, b4⟩ := tally_bounds g h
  obtain ⟨_, h2, _, _⟩ := fits_true h
  have hnl := g.nl
  have h5 := (sumN_mono (b := d.bun t) (c := fun w => stemN d t.st w d.nl) (M := d.nw) (fun i hi => by
    have h3 := tr_stem g h i
    have h4 := quo_le h3.1 (by omega) (b1 i hi)
    unfold DayD.bun
    rw [h2]; omega) d.nw (Nat.le_refl _) g.nw).2.1
  have h6 := stem_total g h d.nl (Nat.le_refl _)
  exact ⟨b3, by show sumN (d.bun t) d.nw ≤ _; omega⟩
theorem cnt_in {d : DayD} (g : d.Good) {t : TruD} (h : d.fits t = true) (k w : Int) (hw0 : 0 ≤ w) (hw1 : w < d.nw) : 0 ≤ (d.tally t).cnt k w ∧ (d.tally t).cnt k w ≤ 20000 := by
  obtain ⟨b1, b2, b3, b4⟩ := tally_bounds g h
  obtain ⟨_, h2, _, _⟩ := fits_true h
  obtain ⟨a1, a2⟩ := all_le g h
  have hh := g.hand.1
  have hf := g.flat.1
  have hw : w.toNat < d.nw := by omega
  have hs := tr_stem g h (w.toNat : Int)
  obtain ⟨q1, q2⟩ := quo_le b3 b4 hh
  unfold TalD.cnt
  split
  · have h4 := quo_le hs.1 (by omega) (b1 _ hw)
    show 0 ≤ d.bun t w.toNat ∧ d.bun t w.toNat ≤ _
    unfold DayD.bun
    rw [h2]; omega
  split
  · have h4 := tmod_le hs.1 (b1 _ hw)
    show 0 ≤ d.lef t w.toNat ∧ d.lef t w.toNat ≤ _
    unfold DayD.lef
    rw [h2]; omega
  split
  · show 0 ≤ quo64 (d.all t) d.hand ∧ quo64 (d.all t) d.hand ≤ _; omega
  split
  · have := tmod_le b3 hh
    show 0 ≤ (d.all t).tmod d.hand ∧ (d.all t).tmod d.hand ≤ _; omega
  split
  · have := quo_le q1 (by omega) hf
    show 0 ≤ quo64 (quo64 (d.all t) d.hand) d.flat ∧ quo64 (quo64 (d.all t) d.hand) d.flat ≤ _; omega
  · have := tmod_le q1 hf
    show 0 ≤ (quo64 (d.all t) d.hand).tmod d.flat ∧ (quo64 (d.all t) d.hand).tmod d.flat ≤ _; omega
def DayD.withC (d : DayD) (m : Nat) (k w lo hi : Nat → Int) : DayD := { d with nc := m, ck := k, cw := w, clo := lo, chi := hi }
theorem with_check {d : DayD} (hc : d.check = 0) {m : Nat} {k w lo hi : Nat → Int} (hm : m ≤ 5) (h : ∀ j, j < m → (0 ≤ k j ∧ k j < 6) ∧ (0 ≤ w j ∧ w j < d.nw) ∧ (w j = 0 ∨ k j < 2) ∧ 0 ≤ lo j ∧ lo j ≤ hi j ∧ hi j ≤ 20000) :
    (d.withC m k w lo hi).check = 0 := by
  have hmn := check_many hc
  unfold DayD.check at hc ⊢
  have hlong : d.long = false := by
    cases h : d.long with
    | true => rw [h] at hc; simp at hc
    | false => rfl
  have hval : d.validB = true := by
    cases h : d.validB with
    | false => rw [h, hlong] at hc; simp at hc
    | true => rfl
  have h1 : (d.withC m k w lo hi).long = false := by
    simp only [DayD.long, Bool.or_eq_false_iff, decide_eq_false_iff_not, Nat.not_lt] at hlong ⊢
    exact ⟨hlong.1, hm⟩
  have h2 : (d.withC m k w lo hi).validB = true := by
    simp only [DayD.validB, Bool.and_eq_true, allN, decide_eq_true_eq] at hval ⊢
    refine ⟨hval.1, fun j hj => ?_⟩
    obtain ⟨a, b, c, e⟩ := h j hj
    simp only [DayD.cntOk, withinB, DayD.hasW, Bool.and_eq_true, Bool.or_eq_true, decide_eq_true_eq]
    exact ⟨⟨⟨a, b⟩, c⟩, ⟨e.1, e.2.1⟩, e.2.2⟩
  rw [h1, h2]
  have h3 : manyB (d.withC m k w lo hi).ulo (d.withC m k w lo hi).uhi ((d.withC m k w lo hi).nw + (d.withC m k w lo hi).nl) = manyB d.ulo d.uhi (d.nw + d.nl) := rfl
  rw [h3, hmn]; rfl
theorem with_alike (d : DayD) (m : Nat) (k w lo hi : Nat → Int) : Alike (d.withC m k w lo hi) d := ⟨rfl, rfl, rfl, rfl, rfl⟩
theorem nil_ris : ∀ n : Fin 6, ([] : List Nat) ∈ risL n.1 := by decide +kernel
theorem truth_has {x : DayD} (hc : x.check = 0) {N : Nat} (hN : N < x.nT) (hr : ∀ j, j < x.nc → x.okB N j = true) :
    x.seen.outs ≠ [] ∧ x.proveT (x.nthI N) = true ∧ (x.nc : Int) ≤ x.firstV ∧ leaveV x.seen.E x.nc = lsV [] ∧
    ∀ V : TruD → Int, x.Val V → mnF (fun i => V (x.tr i)) x.oN ≤ V (x.nthI N) ∧ V (x.nthI N) ≤ mxF (fun i => V (x.tr i)) x.oN := by
  have g := good_of_check hc
  have hn := g.nc
  have hsel : x.selB N = true := by
    unfold DayD.selB
    rw [decide_eq_true_eq]
    exact (bits_full (x.okB N) hn).2 hr
  have hmem : N ∈ x.sel := (selT_mem _ _ _).2 ⟨hN, hsel⟩
  obtain ⟨k, hk, e⟩ := List.getElem_of_mem hmem
  have hkN : x.sT k = x.nthI N := by
    unfold DayD.sT
    rw [List.getD_eq_getElem?_getD, List.getElem?_eq_getElem hk, Option.getD_some, e]
  have hR := inR_nth hc hN
  have hall : ∀ j, j < x.nc → x.okC (cutF (x.nw + x.nl) (numT x (x.nthI N))) j = true := fun j hj => by rw [okC_nth hc N hj]; exact hr j hj
  refine ⟨fun h => ?_, ?_, ?_, ?_, fun V hV => ?_⟩
  · have h0 := (sel_nil hc).2 h
    have : k < x.sN := hk
    omega
  · unfold DayD.proveT
    rw [Bool.and_eq_true, Bool.and_eq_true, decide_eq_true_eq]
    exact ⟨⟨hc, nth_fit hc hN⟩, decide_eq_true hr⟩
  · exact Int.le_trans ((first_ge hn _ x.nc hn).2 fun j hj _ => hall j hj) (firstV_le x hR)
  · obtain ⟨l, hl, e⟩ := leave_find hc hn
    have hlen := find_short hn hl (nil_ris ⟨x.nc, by omega⟩) ((leaveQ_iff hn []).2 ⟨_, hR, fun j hj _ => hall j hj⟩)
    rw [e]
    have : l = [] := List.eq_nil_of_length_eq_zero (by simpa using hlen)
    rw [this]
  · have := sel_in hc hV (k := k) hk
    rw [hkN] at this; exact this
end Go.Fz
namespace Go.Fz
open Go.Proofs
set_option maxRecDepth 100000
set_option linter.unusedVariables false
def u16C (wf : Nat → Int) (i _ : Nat) : AV := .lit (.int .u16 (wf i))
def u16V (n : Nat) (wf : Nat → Int) : AV := .isl n 1 false (u16C wf)
theorem u16V_below (n : Nat) (wf : Nat → Int) : Below 0 (u16V n wf) := Below.isl fun i k _ _ => Below.lit
def wrdI (n : Nat) (wf : Nat → Int) (i : Nat) : Int := if n = 0 then 0 else wf (i % n)
theorem wrdI_in {n : Nat} {wf : Nat → Int} (h : ∀ i, i < n → 0 ≤ wf i ∧ wf i ≤ 65535) (i : Nat) : 0 ≤ wrdI n wf i ∧ wrdI n wf i ≤ 65535 := by
  unfold wrdI
  split
  · omega
  · exact h _ (Nat.mod_lt _ (by omega))
theorem word88_ok (n : Nat) (wf : Nat → Int) (h : ∀ i, i < n → 0 ≤ wf i ∧ wf i ≤ 65535) (i : Nat) : Pure Try.prog 88 [u16V n wf, iV (Int.ofNat i)] (iV (wrdI n wf i)) := by
  obtain ⟨O, hO⟩ : ∃ O : Ar, O = std := ⟨_, rfl⟩
  refine pure_of_body tok 3 Try.func88 en88 rfl ⟨u16V_below n wf, Below.lit, trivial⟩ Below.lit ?_
  refine SW.seqRun tok hO (by cbv <;> rfl) (by trivial) ?_
  refine SW.seq ?_
  refine SW.seqRun tok hO (by cbv <;> rfl) (by trivial) ?_
  refine SW.condS (by cbv <;> rfl) (fun h1 => ?_) (fun h1 => SW.skip ?_)
  · refine SW.seqRun tok hO (by cbv <;> rfl) (by trivial) ?_
    refine SW.ret ⟨_, _, rfl, rfl, Eqv.int ?_⟩
    have h0 : Int.ofNat n = 0 := by subst hO; simpa [std] using h1
    have h2 : n = 0 := by
      have : (n : Int) = 0 := h0
      omega
    show 0 = wrdI n wf i
    unfold wrdI; rw [if_pos h2]
  · have hz : n ≠ 0 := by
      intro h2
      subst h2; subst hO
      simp [std] at h1
    have hz2 : Int.ofNat n ≠ 0 := by
      intro h2
      have : (n : Int) = 0 := h2
      omega
    have hr : O.bin .rem .i64 (Int.ofNat i) (Int.ofNat n) = Int.ofNat (i % n) := by subst hO; rfl
    have hlt : i % n < n := Nat.mod_lt _ (by omega)
    have hin : 0 ≤ O.bin .rem .i64 (Int.ofNat i) (Int.ofNat n) ∧ O.bin .rem .i64 (Int.ofNat i) (Int.ofNat n) < (n : Int) := by
      rw [hr]; exact ⟨Int.natCast_nonneg _, Int.ofNat_lt.2 hlt⟩
    refine SW.seqRun tok hO (by cbv <;> rfl) ?_ ?_
    · repeat (first | exact trivial | exact hz2 | exact hin | exact hin.1 | exact hin.2 | refine ⟨?_, ?_⟩)
    refine SW.ret ⟨_, _, rfl, rfl, Eqv.int ?_⟩
    have hn : O.nat (Int.ofNat (i % n)) = i % n := by subst hO; rfl
    have hw := h _ hlt
    show O.conv .i64 (wf (O.nat (O.bin .rem .i64 (Int.ofNat i) (Int.ofNat n)))) = wrdI n wf i
    rw [hr, hn]
    unfold wrdI
    rw [if_neg hz]
    subst hO
    show wrp .i64 (wf (i % n)) = _
    exact wrp_in (by simp only [IntKind.lo]; omega) (by simp only [IntKind.hi]; omega)
theorem in45_ok (n lo hi : Int) : Pure Try.prog 45 [iV n, rangeV lo hi] (.sb (inB n lo hi)) := by
  obtain ⟨O, hO⟩ : ∃ O : Ar, O = std := ⟨_, rfl⟩
  refine pure_of_body tok 3 Try.func45 en45 rfl ⟨Below.lit, rangeV_below, trivial⟩ Below.sb ?_
  refine SW.seqRun tok hO (by cbv <;> rfl) (by trivial) ?_
  refine SW.seqRun tok hO (by cbv <;> rfl) (by trivial) ?_
  refine OpsW.splitG (by cbv <;> rfl) (fun h => ?_) (fun h => ?_) <;> refine OpsW.run tok hO (by cbv <;> rfl) (by trivial) ?_
  all_goals first
    | refine SW.ret ⟨_, _, rfl, rfl, Eqv.bool (Bool.eq_iff_iff.2 ?_)⟩
    | refine SW.ret ⟨_, _, rfl, rfl, Eqv.sb (Bool.eq_iff_iff.2 ?_)⟩
  all_goals subst hO; simp_all [std, inB]
  all_goals (intros; omega)
theorem stems44_ok (d : DayD) (t : TruD) (w : Int) (hs : t.ns = d.nl) (hn : d.nl < 1000) : Pure Try.prog 44 [dayV d, truV t, iV w] (iV (stemN d t.st w d.nl)) := by
  obtain ⟨O, hO⟩ : ∃ O : Ar, O = std := ⟨_, rfl⟩
  refine pure_of_body tok 3 Try.func44 en44 rfl ⟨dayV_below d, truV_below t, Below.lit, trivial⟩ Below.lit ?_
  refine SW.seqRun tok hO (by cbv <;> rfl) (by trivial) ?_
  refine SW.seqRun tok hO (by cbv <;> rfl) (by trivial) ?_
  refine SW.seq ?_
  refine SW.seqRun tok hO (by cbv <;> rfl) (by trivial) ?_
  refine (SW.block (SW.loopF (fun i : Nat => ⟨⟨32, getT [(2, iV w), (3, .ptr 0 0), (4, .ptr 1 0), (7, iV (stemN d t.st w i)), (8, iV i)]⟩, []⟩)
    (fun i => ⟨[(1, .cells none false (truC t)), (0, .cells none false (dayC d))], 2⟩) (fun i => d.nl - i) (fun i => i ≤ d.nl) 0
    (fun _ => rfl) (Nat.zero_le _) (Weak.by rfl rfl (by simp) (Nat.le_refl _) (Nat.le_refl _) ⟨⟨rfl, .inl rfl⟩, ⟨rfl, .inl rfl⟩, ⟨rfl, .inl rfl⟩, ⟨rfl, .inl rfl⟩, ⟨rfl, .inl rfl⟩, trivial⟩ ⟨⟨rfl, by omega, .inl rfl⟩, ⟨rfl, by omega, .inl rfl⟩, trivial⟩) fun i hi => ?_))
  generalize hacc : stemN d t.st w i = acc
  refine SW.seq ?_
  refine SW.seqRun tok hO (by cbv <;> rfl) (by trivial) ?_
  refine SW.condS (by cbv <;> rfl) (fun h => SW.skip ?_) (fun h => SW.exit ?_)
  · have hlt : i < d.nl := by subst hO; simpa [std] using h
    have hi0 : (0 : Int) ≤ Int.ofNat i := Int.natCast_nonneg i
    refine SW.seq (SW.block ?_)
    refine SW.seqRun tok hO (by cbv <;> rfl) ?_ ?_
    · exact ⟨hi0, Int.ofNat_lt.2 hlt⟩
    refine SW.condS (by cbv <;> rfl) (fun h2 => ?_) (fun h2 => SW.skip ?_)
    · refine SW.run tok hO (by cbv <;> rfl) ?_ ?_
      · exact ⟨hi0, Int.ofNat_lt.2 (show i < t.ns by omega)⟩
      refine SW.run tok hO (by cbv <;> rfl) (by trivial) ?_
      have hwl : d.lw i = w := by subst hO; simpa [std] using h2
      have e : stemN d t.st w (i + 1) = add64 acc (t.st i) := by simp only [stemN, hwl, if_true, hacc]
      refine ⟨i + 1, by omega, by omega, Weak.by rfl rfl (by simp) (Nat.le_refl _) (Nat.le_refl _) ⟨⟨rfl, .inl rfl⟩, ⟨rfl, .inl rfl⟩, ⟨rfl, .inl rfl⟩, ⟨?_, .inl rfl⟩, ⟨inc_ok hO (by omega), .inl rfl⟩, trivial⟩
        ⟨⟨rfl, by omega, .inl rfl⟩, ⟨rfl, by omega, .inl rfl⟩, trivial⟩⟩
      rw [e]; subst hO; rfl
    · refine SW.run tok hO (by cbv <;> rfl) (by trivial) ?_
      have hwl : ¬ d.lw i = w := by subst hO; simpa [std] using h2
      have e : stemN d t.st w (i + 1) = acc := by simp only [stemN]; rw [if_neg hwl, hacc]
      refine ⟨i + 1, by omega, by omega, Weak.by rfl rfl (by simp) (Nat.le_refl _) (Nat.le_refl _) ⟨⟨rfl, .inl rfl⟩, ⟨rfl, .inl rfl⟩, ⟨rfl, .inl rfl⟩, ⟨?_, .inl rfl⟩, ⟨inc_ok hO (by omega), .inl rfl⟩, trivial⟩
        ⟨⟨rfl, by omega, .inl rfl⟩, ⟨rfl, by omega, .inl rfl⟩, trivial⟩⟩
      rw [e]; rfl
  · have hz : i = d.nl := by
      have : d.nl ≤ i := by subst hO; simpa [std] using h
      omega
    refine SW.seqRun tok hO (by cbv <;> rfl) (by trivial) ?_
    refine SW.ret ⟨_, _, rfl, rfl, Eqv.int ?_⟩
    rw [← hacc, hz]
end Go.Fz
namespace Go.Fz
open Go.Proofs
set_option maxRecDepth 100000
set_option linter.unusedVariables false
def cdK (n : Nat) (wf : Nat → Int) (j : Nat) : Int := std.bin .rem .i64 (wrdI n wf (j + 1)) 6
def cdW (d : DayD) (n : Nat) (wf : Nat → Int) (j : Nat) : Int := if std.cmp .lss (cdK n wf j) 2 = true then std.bin .rem .i64 (std.bin .quo .i64 (wrdI n wf (j + 1)) 8) (Int.ofNat d.nw) else 0
def cdN (d : DayD) (y : TalD) (n : Nat) (wf : Nat → Int) (j : Nat) : Int := y.cnt (cdK n wf j) (cdW d n wf j)
def cdLo (d : DayD) (y : TalD) (n : Nat) (wf : Nat → Int) (j : Nat) : Int := std.mx 0 (std.bin .sub .i64 (cdN d y n wf j) (std.bin .rem .i64 (std.bin .quo .i64 (wrdI n wf (j + 1)) 64) 4))
def cdHi (d : DayD) (y : TalD) (n : Nat) (wf : Nat → Int) (j : Nat) : Int := std.mn 20000 (std.bin .add .i64 (cdN d y n wf j) (std.bin .rem .i64 (std.bin .quo .i64 (wrdI n wf (j + 1)) 256) 4))
def cdM (n : Nat) (wf : Nat → Int) : Nat := (wrdI n wf 0 % 6).toNat
def DayD.cdX (d : DayD) (y : TalD) (n : Nat) (wf : Nat → Int) : DayD := d.withC (cdM n wf) (cdK n wf) (cdW d n wf) (cdLo d y n wf) (cdHi d y n wf)
noncomputable def cdL : Code := match nthC 5 (bodyF Try.f42) with
  | .seq _ (.block _ (.loop c)) => c
  | .block _ (.loop c) => c
  | _ => .skip
noncomputable def cdB : Code := match cdL with
  | .seq _ (.seq (.block _ b) _) => b
  | _ => .skip
def cdF (a : Int) (U : AV) (i : Int) : List (Nat × AV) := [(1, .lit (.int .u16 a)), (2, U), (3, .ptr 0 0), (6, .ptr 1 0), (7, .ptr 2 0), (8, .ptr 3 0), (9, .ptr 4 0), (10, .ptr 5 0), (11, iV i)]
def cdH (d : DayD) (t : TruD) (y : TalD) (X : AV) : Hp := [(5, .cells none false [iV d.hand, iV d.flat, womsV d, lotsV d, X]), (4, .cells none false (talC y)), (3, .cells none false (truC t)), (2, .cells none false tru0), (1, .cells none false day0), (0, .cells none false (dayC d))]
set_option maxHeartbeats 16000000 in
theorem cd_b (d : DayD) (t : TruD) (y : TalD) (a : Int) (U : AV) (i : Nat) (X : AV) (H : Hp) (W K : Int) (w : Nat) (hw : w < y.n) (hcnt : Pure Try.prog 89 [talV y, .agg [iV K, iV (Int.ofNat w), iV 0, iV 0]] (iV (y.cnt K (Int.ofNat w)))) (O : Ar) (hO : O = std) (g : Nat → AV)
    (h : AllP (fun p => g p.1 = p.2) (cdF a U (Int.ofNat i) ++ [(12, iV W), (13, .ptr 7 0)])) {Q : Exit → Fm → St → Prop}
    (hk : ∀ g, AllP (fun p => g p.1 = p.2) (cdF a U (Int.ofNat i) ++ [(13, .ptr 7 0)]) → SW Try.prog none (restC 5 cdB) Q ⟨⟨76, g⟩, []⟩ ⟨(7, .cells none false [iV K, iV (Int.ofNat w), iV (O.mx 0 (O.bin .sub .i64 (y.cnt K (Int.ofNat w)) (O.bin .rem .i64 (O.bin .quo .i64 W 64) 4))), iV (O.mn 20000 (O.bin .add .i64 (y.cnt K (Int.ofNat w)) (O.bin .rem .i64 (O.bin .quo .i64 W 256) 4)))]) :: (cdH d t y X ++ H), 8⟩) :
    SW Try.prog none (restC 3 cdB) Q ⟨⟨76, g⟩, []⟩ ⟨(7, .cells none false [iV K, iV (Int.ofNat w), iV 0, iV 0]) :: (cdH d t y X ++ H), 8⟩ := by
  obtain ⟨g1, g2, g3, g6, g7, g8, g9, g10, g11, g12, g13, _⟩ := h
  simp only at g1 g2 g3 g6 g7 g8 g9 g10 g11 g12 g13
  rw [← updT_self g1, ← updT_self g2, ← updT_self g3, ← updT_self g6, ← updT_self g7, ← updT_self g8, ← updT_self g9, ← updT_self g10, ← updT_self g11, ← updT_self g12, ← updT_self g13]
  generalize y.cnt K (Int.ofNat w) = C at hcnt hk
  generalize Int.ofNat w = w' at hcnt hk
  generalize Int.ofNat i = i' at hk
  have n4 : (4 : Int) ≠ 0 := by decide
  have n64 : (64 : Int) ≠ 0 := by decide
  have n256 : (256 : Int) ≠ 0 := by decide
  show SW Try.prog none (.seq (.region 12 _ false) (.seq (.region 13 _ false) (restC 5 cdB))) Q _ _
  refine SW.seqRun tok hO (by cbv <;> rfl) (by trivial) ?_
  refine OpsW.callP hcnt (by cbv <;> rfl) ?_
  refine OpsW.run tok hO (by cbv <;> rfl) (by trivial) ?_
  refine SW.seqRun tok hO (by cbv <;> rfl) (by repeat (first | exact trivial | exact n4 | exact n64 | exact n256 | refine ⟨?_, ?_⟩)) ?_
  exact hk _ ⟨rfl, rfl, rfl, rfl, rfl, rfl, rfl, rfl, rfl, rfl, trivial⟩
set_option maxHeartbeats 16000000 in
theorem cd_a (d : DayD) (t : TruD) (y : TalD) (a : Int) (n : Nat) (wf : Nat → Int) (U : AV) (hU : U = u16V n wf) (i : Nat) (X : AV) (H : Hp) (hyn : y.n = d.nw) (hpos : 0 < d.nw) (hwf : ∀ i, i < n → 0 ≤ wf i ∧ wf i ≤ 65535) (hcnt : ∀ (K : Int) (w : Nat), w < y.n → Pure Try.prog 89 [talV y, .agg [iV K, iV (Int.ofNat w), iV 0, iV 0]] (iV (y.cnt K (Int.ofNat w)))) (O : Ar) (hO : O = std) (g : Nat → AV)
    (h : AllP (fun p => g p.1 = p.2) (cdF a U (Int.ofNat i))) {Q : Exit → Fm → St → Prop} (hi : i < 100)
    (hk : ∀ g, AllP (fun p => g p.1 = p.2) (cdF a U (Int.ofNat i) ++ [(13, .ptr 7 0)]) → SW Try.prog none (restC 5 cdB) Q ⟨⟨76, g⟩, []⟩ ⟨(7, .cells none false [iV (cdK n wf i), iV (cdW d n wf i), iV (cdLo d y n wf i), iV (cdHi d y n wf i)]) :: (cdH d t y X ++ H), 8⟩) :
    SW Try.prog none cdB Q ⟨⟨76, g⟩, []⟩ ⟨cdH d t y X ++ H, 7⟩ := by
  obtain ⟨g1, g2, g3, g6, g7, g8, g9, g10, g11, _⟩ := h
  simp only at g1 g2 g3 g6 g7 g8 g9 g10 g11
  rw [← updT_self g1, ← updT_self g2, ← updT_self g3, ← updT_self g6, ← updT_self g7, ← updT_self g8, ← updT_self g9, ← updT_self g10, ← updT_self g11]
  have hword : Pure Try.prog 88 [U, iV (O.bin .add .i64 (Int.ofNat i) 1)] (iV (wrdI n wf (i + 1))) := by
    rw [hU]
    show Pure Try.prog 88 [u16V n wf, AV.lit (.int .i64 (O.bin .add .i64 (Int.ofNat i) 1))] _
    rw [inc_ok hO (by omega)]; exact word88_ok n wf hwf (i + 1)
  have n6 : (6 : Int) ≠ 0 := by decide
  have n8 : (8 : Int) ≠ 0 := by decide
  have hW := wrdI_in hwf (i + 1)
  have eK : O.bin .rem .i64 (wrdI n wf (i + 1)) 6 = cdK n wf i := by subst hO; rfl
  have eLo : ∀ C, O.mx 0 (O.bin .sub .i64 C (O.bin .rem .i64 (O.bin .quo .i64 (wrdI n wf (i + 1)) 64) 4)) = std.mx 0 (std.bin .sub .i64 C (std.bin .rem .i64 (std.bin .quo .i64 (wrdI n wf (i + 1)) 64) 4)) := fun C => by subst hO; rfl
  have eHi : ∀ C, O.mn 20000 (O.bin .add .i64 C (O.bin .rem .i64 (O.bin .quo .i64 (wrdI n wf (i + 1)) 256) 4)) = std.mn 20000 (std.bin .add .i64 C (std.bin .rem .i64 (std.bin .quo .i64 (wrdI n wf (i + 1)) 256) 4)) := fun C => by subst hO; rfl
  have hz2 : Int.ofNat d.nw ≠ 0 := by
    intro h2
    have : (d.nw : Int) = 0 := h2
    omega
  have key : ∀ (w : Nat) (g : Nat → AV), w < y.n → Int.ofNat w = cdW d n wf i → AllP (fun p => g p.1 = p.2) (cdF a U (Int.ofNat i) ++ [(12, iV (wrdI n wf (i + 1))), (13, .ptr 7 0)]) →
      SW Try.prog none (restC 3 cdB) Q ⟨⟨76, g⟩, []⟩ ⟨(7, .cells none false [iV (O.bin .rem .i64 (wrdI n wf (i + 1)) 6), iV (Int.ofNat w), iV 0, iV 0]) :: (cdH d t y X ++ H), 8⟩ := fun w g hw he hg => by
    refine cd_b d t y a U i X H (wrdI n wf (i + 1)) _ w hw (hcnt _ w hw) O hO g hg fun g' hg' => ?_
    have := hk g' hg'
    unfold cdLo cdHi cdN at this
    rw [eLo, eHi, eK, he]
    exact this
  have hif : cdW d n wf i = if O.cmp .lss (O.bin .rem .i64 (wrdI n wf (i + 1)) 6) 2 = true then O.bin .rem .i64 (O.bin .quo .i64 (wrdI n wf (i + 1)) 8) (Int.ofNat d.nw) else 0 := by subst hO; rfl
  have hmod : ∃ w : Nat, w < d.nw ∧ O.bin .rem .i64 (O.bin .quo .i64 (wrdI n wf (i + 1)) 8) (Int.ofNat d.nw) = Int.ofNat w := by
    obtain ⟨A, hA⟩ := Int.eq_ofNat_of_zero_le hW.1
    refine ⟨A / 8 % d.nw, Nat.mod_lt _ hpos, ?_⟩
    subst hO
    rw [hA]
    show (wrp .i64 ((A : Int).tdiv 8)).tmod (d.nw : Int) = _
    rw [show (A : Int).tdiv 8 = ((A / 8 : Nat) : Int) from rfl, wrp_in (by simp only [IntKind.lo]; omega) (by simp only [IntKind.hi]; omega)]
    rfl
  obtain ⟨w0, hw0, hm0⟩ := hmod
  generalize cdW d n wf i = CW at hk key hif
  generalize cdLo d y n wf i = CL at hk
  generalize cdHi d y n wf i = CH at hk
  generalize cdK n wf i = CK at hk eK
  generalize wrdI n wf (i + 1) = W at *
  generalize hi' : Int.ofNat i = i' at *
  show SW Try.prog none (.seq (.region 8 _ false) (.seq (.region 9 _ false) (.seq (.seq (.region 10 _ false) (.cond _ (.region 11 _ false) .skip)) (restC 3 cdB)))) Q _ _
  refine SW.seqRun tok hO (by cbv <;> rfl) (by trivial) ?_
  refine OpsW.callP hword (by cbv <;> rfl) ?_
  refine OpsW.run tok hO (by cbv <;> rfl) (by trivial) ?_
  refine SW.seqRun tok hO (by cbv <;> rfl) (by repeat (first | exact trivial | exact n6 | refine ⟨?_, ?_⟩)) ?_
  refine SW.seq ?_
  refine SW.seqRun tok hO (by cbv <;> rfl) (by trivial) ?_
  refine SW.condS (by cbv <;> rfl) (fun h1 => ?_) (fun h1 => SW.skip ?_)
  · refine SW.run tok hO (by cbv <;> rfl) (by repeat (first | exact trivial | exact hz2 | exact n8 | refine ⟨?_, ?_⟩)) ?_
    show SW Try.prog none (restC 3 cdB) Q _ ⟨(7, .cells none false [iV (O.bin .rem .i64 W 6), iV (O.bin .rem .i64 (O.bin .quo .i64 W 8) (Int.ofNat d.nw)), iV 0, iV 0]) :: (cdH d t y X ++ H), 8⟩
    rw [hm0]
    refine key w0 _ (by omega) ?_ ⟨rfl, rfl, rfl, rfl, rfl, rfl, rfl, rfl, rfl, rfl, rfl, trivial⟩
    rw [hif, if_pos h1, hm0]
  · refine key 0 _ (by omega) ?_ ⟨rfl, rfl, rfl, rfl, rfl, rfl, rfl, rfl, rfl, rfl, rfl, trivial⟩
    rw [hif, if_neg (fun h => absurd (show false = true from h1.symm.trans h) (by decide))]
    rfl
end Go.Fz
