/- Own work of the verifier of watercress: FzE1, FzE6n, FzB2, FzB3, FzB4, FzB5. -/
import Derived.Test.YtpefamheopplnaaMm3
import Derived.Deep.Slices
import Derived.Lib.SmallJoins
import Derived.WideKeyArgs
import Derived.WalkKit
import Derived.ProofKit
import Derived.OpenShut
import Derived.JoinedCond
import Derived.Below
import Derived.ChangeSame
import Derived.CallsIn
import Derived.Carry
import Derived.Test.YtpefamheopplnaaRows
import Derived.Test.YtpefamheopplnaaMm8
set_option linter.unusedVariables false
set_option linter.unusedSimpArgs false
namespace Go.Fz
open Go.ChangeShapes Go.WideShapes Go.Deep Go.Joins
def flatFs (P : Program) (rec : TypeId → Option (List Bool)) : List Field → Nat → Option (List Bool)
  | [], _ => some []
  | f :: fs, off => match rec f.type, flatFs P rec fs (off + P.cellsOf f.type) with
    | some ks, some ls => if f.offset = off ∧ ks.length = P.cellsOf f.type then some (ks ++ ls) else none
    | _, _ => none
section
variable {H : Type} {enc : TypeId × Value → H} {P : Program} {w : World} {base : Nat} {spare : Nat → Bool} {held : Bool}
def zW (w : World) (b : Nat) : Option (Nat → Option Value) := match w.heap[b]? with
  | some (.cells c _ _) => some fun i => c[i]?
  | _ => none
theorem zW_cell {b : Nat} {c : Nat → Option Value} (h : zW w b = some c) (i : Nat) : c i = w.cell? ⟨b, i, none⟩ := by
  unfold zW at h
  split at h
  · rename_i hb
    cases h
    simp [World.cell?, hb]
  · cases h
def fiW (w : World) : Fi := ⟨fun _ => ⟨0, 0, 0⟩, 0, zW w⟩
theorem relW (w : World) : Rel (fiW w) ⟨[], 0⟩ w := by
  refine ⟨rfl, fun _ _ h => by simp [Hp.get] at h, fun _ _ h => by simp [Hp.get] at h, fun _ _ h => by simp [Hp.get] at h, fun _ _ _ _ h => by simp [Hp.get] at h, fun _ _ _ h => by simp [Hp.get] at h, fun b c hb => ⟨?_, fun i v hv => ?_, fun _ _ h => by simp [Hp.get] at h⟩⟩
  · have hb' : zW w b = some c := hb
    unfold zW at hb'
    split at hb'
    · rename_i hh
      exact (Array.getElem?_eq_some_iff.1 hh).1
    · cases hb'
  · rw [← zW_cell (w := w) hb i]; exact hv
end
end Go.Fz
namespace Go.Proofs.Ytpefamheopplnaa
open Go.ChangeShapes Go.WideShapes Go.ChangeAt Go.RowKit Go.Joins
set_option linter.unusedVariables false
set_option maxRecDepth 100000
theorem post_of_below {H : Type} {enc : TypeId × Value → H} {P : Program} {f : Func} {s : ChangeSpec} {apart fresh handsOn again : Bool} {W W' : World} {args : Array Value} {v : Value} {ds gs : List (DataW H)} {before pa pv : List MemPlace}
    (hW : DataW.Whole enc P f.params.toList s.vars apart W args.toList ds gs before)
    (hres : ∀ (b : Nat) (sp : Nat → Bool) (hd : Bool), DataW.TrodAll enc P W' b sp hd f.resultTypes.toList (v.resultList f.resultTypes.size) (s.fn H (ds ++ gs)).results [])
    (hargs : ∀ sp : Nat → Bool, (∀ p ∈ before, sp p.block = true) → DataW.TrodAll enc P W' 0 sp true f.params.toList args.toList (s.fn H (ds ++ gs)).args pa)
    (hvars : ∀ sp : Nat → Bool, (∀ p ∈ before, sp p.block = true) → DataW.TrodVars enc P W' sp s.vars (s.fn H (ds ++ gs)).vars pv)
    (hps : before = pa ++ pv) (hb : Below W.heap.size W W')
    (hok : ∀ (j : Nat) (t : TypeId) (r : Value), f.resultTypes[j]? = some t → (v.resultList f.resultTypes.size)[j]? = some r → Value.okWide P W' .any 0 t r) :
    s.post enc P f apart fresh handsOn again W args v W' := by
  have hlt : ∀ p ∈ before, p.block < W.heap.size := fun p hp => hW.lt p hp
  have hold : ∀ p ∈ before, (fun b => decide (b < W.heap.size)) p.block = true := fun p hp => by simpa using hlt p hp
  refine ⟨ds, gs, before, [], pa, pv, hW, hres _ _ _, hargs _ hold, hvars _ hold, World.keptBut_mono (fun p hp => ⟨hp, ?_⟩) (hb.frame (· ∈ before)), fun _ => ?_⟩
  · rw [hps, List.mem_append] at hp
    exact Or.inr hp
  · obtain ⟨_, _, _, _, _, hz, hn⟩ := hW
    refine ⟨hok, _, _, ([] ++ pa) ++ pv, ⟨[] ++ pa, pv, trodAll_append (hargs _ (fun _ _ => rfl)) (hres _ _ _), hvars _ (fun _ _ => rfl), rfl, ?_, ?_⟩, ?_⟩
    · intro b off hp
      have hin : MemPlace.cell b off ∈ before := by rw [hps]; simpa using hp
      rw [hb.frozen (hlt _ hin)]
      exact hz b off hin
    · intro ha
      have := hn ha
      rw [hps] at this
      simpa using this
    · intro p hp _
      rw [hps]
      simpa using hp
theorem own : ownKnob Try.prog.godebug = none := by kernel_rfl
end Go.Proofs.Ytpefamheopplnaa
namespace Go.Fz
open Go.Proofs
set_option maxRecDepth 100000
theorem each70_ok (d : DayD) (g0 : FuncId) (first caps : List AV) (p : Nat → Bool) (hb : Below 0 (.fn (.func g0) first caps)) (hn : d.nw < 4611686018427387904) (hp : ∀ i, i < d.nw → Pure Try.prog g0 (first ++ [iV i, womV d i] ++ caps) (.sb (p i))) :
    Pure Try.prog 114 [womsV d, .fn (.func g0) first caps] (.sb (allN d.nw p)) := by
  obtain ⟨O, hO⟩ : ∃ O : Ar, O = std := ⟨_, rfl⟩
  have hnat : ∀ i : Nat, O.nat (Int.ofNat i) = i := fun i => by subst hO; rfl
  refine pure_of_body tok 3 Try.func114 en114 rfl ⟨womsV_below d, hb, trivial⟩ Below.sb ?_
  refine SW.seqRun tok hO (by cbv <;> rfl) (by trivial) ?_
  refine SW.seq ?_
  refine SW.seqRun tok hO (by cbv <;> rfl) (by trivial) ?_
  refine (SW.block (SW.loopF (fun i : Nat => ⟨⟨20, getT [(1, .fn (.func g0) first caps), (7, womsV d), (8, iV d.nw), (9, iV i)]⟩, []⟩) (fun _ => ⟨[], 0⟩) (fun i => d.nw - i) (fun i => i ≤ d.nw ∧ ∀ j, j < i → p j = true) 0
    (fun _ => rfl) ⟨Nat.zero_le _, fun j hj => absurd hj (Nat.not_lt_zero j)⟩ (Weak.by rfl rfl (by simp) (Nat.le_refl _) (Nat.le_refl _) ⟨⟨rfl, .inl rfl⟩, ⟨rfl, .inl rfl⟩, ⟨rfl, .inl rfl⟩, ⟨rfl, .inl rfl⟩, trivial⟩ trivial) fun i ⟨hi, hall⟩ => ?_))
  refine SW.seqRun tok hO (by cbv <;> rfl) (by trivial) ?_
  refine SW.seq (SW.condS (by cbv <;> rfl) (fun h => SW.skip ?_) (fun h => SW.exit ?_))
  · have hlt : i < d.nw := by subst hO; simpa [std] using h
    refine SW.seq (SW.block ?_)
    refine SW.seqRun tok hO (by cbv <;> rfl) ?_ ?_
    · exact ⟨Int.natCast_nonneg i, Int.ofNat_lt.2 hlt⟩
    refine SW.seqRun tok hO (by cbv <;> rfl) (by trivial) ?_
    refine OpsW.callB (e := p i) (args := first ++ [iV (Int.ofNat i), .agg [iV (d.wlo (O.nat (Int.ofNat i))), iV (d.whi (O.nat (Int.ofNat i)))]] ++ caps) (by rw [hnat]; exact hp i hlt) (by cbv <;> rfl) fun b hb' => ?_
    refine OpsW.run tok hO (by cbv <;> rfl) (by trivial) ?_
    refine SW.condS (by cbv <;> rfl) (fun h' => ?_) (fun h' => SW.skip ?_)
    · refine SW.seqRun tok hO (by cbv <;> rfl) (by trivial) ?_
      refine SW.ret ⟨_, _, rfl, rfl, Eqv.bool (Bool.eq_iff_iff.2 ?_)⟩
      subst hO
      simp [std, hb'] at h'
      simp only [Bool.false_eq_true, allN, decide_eq_true_eq, false_iff]
      intro hq
      rw [hq i hlt] at h'
      cases h'
    · refine SW.run tok hO (by cbv <;> rfl) (by trivial) ?_
      refine ⟨i + 1, by omega, ⟨by omega, fun j hj => ?_⟩, Weak.by rfl rfl (by simp) (Nat.le_refl _) (Nat.zero_le _) ⟨⟨rfl, .inr hb⟩, ⟨rfl, .inr (womsV_below d)⟩, ⟨rfl, .inr iV_below⟩, ⟨inc_ok hO (by omega), .inr iV_below⟩, trivial⟩ trivial⟩
      rcases Nat.lt_succ_iff_lt_or_eq.1 hj with hj | rfl
      · exact hall j hj
      · subst hO; simp [std, hb'] at h'; exact h'
  · refine SW.seqRun tok hO (by cbv <;> rfl) (by trivial) ?_
    refine SW.ret ⟨_, _, rfl, rfl, Eqv.bool (Bool.eq_iff_iff.2 ?_)⟩
    have hge : d.nw ≤ i := by subst hO; simpa [std] using h
    simp only [allN, decide_eq_true_eq, true_iff]
    exact fun j hj => hall j (by omega)
theorem each72_ok (d : DayD) (g0 : FuncId) (first caps : List AV) (p : Nat → Bool) (hb : Below 0 (.fn (.func g0) first caps)) (hn : d.nl < 4611686018427387904) (hp : ∀ i, i < d.nl → Pure Try.prog g0 (first ++ [iV i, lotV d i] ++ caps) (.sb (p i))) :
    Pure Try.prog 116 [lotsV d, .fn (.func g0) first caps] (.sb (allN d.nl p)) := by
  obtain ⟨O, hO⟩ : ∃ O : Ar, O = std := ⟨_, rfl⟩
  have hnat : ∀ i : Nat, O.nat (Int.ofNat i) = i := fun i => by subst hO; rfl
  refine pure_of_body tok 3 Try.func116 en116 rfl ⟨lotsV_below d, hb, trivial⟩ Below.sb ?_
  refine SW.seqRun tok hO (by cbv <;> rfl) (by trivial) ?_
  refine SW.seq ?_
  refine SW.seqRun tok hO (by cbv <;> rfl) (by trivial) ?_
  refine (SW.block (SW.loopF (fun i : Nat => ⟨⟨20, getT [(1, .fn (.func g0) first caps), (7, lotsV d), (8, iV d.nl), (9, iV i)]⟩, []⟩) (fun _ => ⟨[], 0⟩) (fun i => d.nl - i) (fun i => i ≤ d.nl ∧ ∀ j, j < i → p j = true) 0
    (fun _ => rfl) ⟨Nat.zero_le _, fun j hj => absurd hj (Nat.not_lt_zero j)⟩ (Weak.by rfl rfl (by simp) (Nat.le_refl _) (Nat.le_refl _) ⟨⟨rfl, .inl rfl⟩, ⟨rfl, .inl rfl⟩, ⟨rfl, .inl rfl⟩, ⟨rfl, .inl rfl⟩, trivial⟩ trivial) fun i ⟨hi, hall⟩ => ?_))
  refine SW.seqRun tok hO (by cbv <;> rfl) (by trivial) ?_
  refine SW.seq (SW.condS (by cbv <;> rfl) (fun h => SW.skip ?_) (fun h => SW.exit ?_))
  · have hlt : i < d.nl := by subst hO; simpa [std] using h
    refine SW.seq (SW.block ?_)
    refine SW.seqRun tok hO (by cbv <;> rfl) ?_ ?_
    · exact ⟨Int.natCast_nonneg i, Int.ofNat_lt.2 hlt⟩
    refine SW.seqRun tok hO (by cbv <;> rfl) (by trivial) ?_
    refine OpsW.callB (e := p i) (args := first ++ [iV (Int.ofNat i), .agg [iV (d.lw (O.nat (Int.ofNat i))), iV (d.llo (O.nat (Int.ofNat i))), iV (d.lhi (O.nat (Int.ofNat i)))]] ++ caps) (by rw [hnat]; exact hp i hlt) (by cbv <;> rfl) fun b hb' => ?_
    refine OpsW.run tok hO (by cbv <;> rfl) (by trivial) ?_
    refine SW.condS (by cbv <;> rfl) (fun h' => ?_) (fun h' => SW.skip ?_)
    · refine SW.seqRun tok hO (by cbv <;> rfl) (by trivial) ?_
      refine SW.ret ⟨_, _, rfl, rfl, Eqv.bool (Bool.eq_iff_iff.2 ?_)⟩
      subst hO
      simp [std, hb'] at h'
      simp only [Bool.false_eq_true, allN, decide_eq_true_eq, false_iff]
      intro hq
      rw [hq i hlt] at h'
      cases h'
    · refine SW.run tok hO (by cbv <;> rfl) (by trivial) ?_
      refine ⟨i + 1, by omega, ⟨by omega, fun j hj => ?_⟩, Weak.by rfl rfl (by simp) (Nat.le_refl _) (Nat.zero_le _) ⟨⟨rfl, .inr hb⟩, ⟨rfl, .inr (lotsV_below d)⟩, ⟨rfl, .inr iV_below⟩, ⟨inc_ok hO (by omega), .inr iV_below⟩, trivial⟩ trivial⟩
      rcases Nat.lt_succ_iff_lt_or_eq.1 hj with hj | rfl
      · exact hall j hj
      · subst hO; simp [std, hb'] at h'; exact h'
  · refine SW.seqRun tok hO (by cbv <;> rfl) (by trivial) ?_
    refine SW.ret ⟨_, _, rfl, rfl, Eqv.bool (Bool.eq_iff_iff.2 ?_)⟩
    have hge : d.nl ≤ i := by subst hO; simpa [std] using h
    simp only [allN, decide_eq_true_eq, true_iff]
    exact fun j hj => hall j (by omega)
theorem each74_ok (d : DayD) (g0 : FuncId) (first caps : List AV) (p : Nat → Bool) (hb : Below 0 (.fn (.func g0) first caps)) (hn : d.nc < 4611686018427387904) (hp : ∀ i, i < d.nc → Pure Try.prog g0 (first ++ [iV i, cntV d i] ++ caps) (.sb (p i))) :
    Pure Try.prog 118 [cntsV d, .fn (.func g0) first caps] (.sb (allN d.nc p)) := by
  obtain ⟨O, hO⟩ : ∃ O : Ar, O = std := ⟨_, rfl⟩
  have hnat : ∀ i : Nat, O.nat (Int.ofNat i) = i := fun i => by subst hO; rfl
  refine pure_of_body tok 3 Try.func118 en118 rfl ⟨cntsV_below d, hb, trivial⟩ Below.sb ?_
  refine SW.seqRun tok hO (by cbv <;> rfl) (by trivial) ?_
  refine SW.seq ?_
  refine SW.seqRun tok hO (by cbv <;> rfl) (by trivial) ?_
  refine (SW.block (SW.loopF (fun i : Nat => ⟨⟨20, getT [(1, .fn (.func g0) first caps), (7, cntsV d), (8, iV d.nc), (9, iV i)]⟩, []⟩) (fun _ => ⟨[], 0⟩) (fun i => d.nc - i) (fun i => i ≤ d.nc ∧ ∀ j, j < i → p j = true) 0
    (fun _ => rfl) ⟨Nat.zero_le _, fun j hj => absurd hj (Nat.not_lt_zero j)⟩ (Weak.by rfl rfl (by simp) (Nat.le_refl _) (Nat.le_refl _) ⟨⟨rfl, .inl rfl⟩, ⟨rfl, .inl rfl⟩, ⟨rfl, .inl rfl⟩, ⟨rfl, .inl rfl⟩, trivial⟩ trivial) fun i ⟨hi, hall⟩ => ?_))
  refine SW.seqRun tok hO (by cbv <;> rfl) (by trivial) ?_
  refine SW.seq (SW.condS (by cbv <;> rfl) (fun h => SW.skip ?_) (fun h => SW.exit ?_))
  · have hlt : i < d.nc := by subst hO; simpa [std] using h
    refine SW.seq (SW.block ?_)
    refine SW.seqRun tok hO (by cbv <;> rfl) ?_ ?_
    · exact ⟨Int.natCast_nonneg i, Int.ofNat_lt.2 hlt⟩
    refine SW.seqRun tok hO (by cbv <;> rfl) (by trivial) ?_
    refine OpsW.callB (e := p i) (args := first ++ [iV (Int.ofNat i), .agg [iV (d.ck (O.nat (Int.ofNat i))), iV (d.cw (O.nat (Int.ofNat i))), iV (d.clo (O.nat (Int.ofNat i))), iV (d.chi (O.nat (Int.ofNat i)))]] ++ caps) (by rw [hnat]; exact hp i hlt) (by cbv <;> rfl) fun b hb' => ?_
    refine OpsW.run tok hO (by cbv <;> rfl) (by trivial) ?_
    refine SW.condS (by cbv <;> rfl) (fun h' => ?_) (fun h' => SW.skip ?_)
    · refine SW.seqRun tok hO (by cbv <;> rfl) (by trivial) ?_
      refine SW.ret ⟨_, _, rfl, rfl, Eqv.bool (Bool.eq_iff_iff.2 ?_)⟩
      subst hO
      simp [std, hb'] at h'
      simp only [Bool.false_eq_true, allN, decide_eq_true_eq, false_iff]
      intro hq
      rw [hq i hlt] at h'
      cases h'
    · refine SW.run tok hO (by cbv <;> rfl) (by trivial) ?_
      refine ⟨i + 1, by omega, ⟨by omega, fun j hj => ?_⟩, Weak.by rfl rfl (by simp) (Nat.le_refl _) (Nat.zero_le _) ⟨⟨rfl, .inr hb⟩, ⟨rfl, .inr (cntsV_below d)⟩, ⟨rfl, .inr iV_below⟩, ⟨inc_ok hO (by omega), .inr iV_below⟩, trivial⟩ trivial⟩
      rcases Nat.lt_succ_iff_lt_or_eq.1 hj with hj | rfl
      · exact hall j hj
      · subst hO; simp [std, hb'] at h'; exact h'
  · refine SW.seqRun tok hO (by cbv <;> rfl) (by trivial) ?_
    refine SW.ret ⟨_, _, rfl, rfl, Eqv.bool (Bool.eq_iff_iff.2 ?_)⟩
    have hge : d.nc ≤ i := by subst hO; simpa [std] using h
    simp only [allN, decide_eq_true_eq, true_iff]
    exact fun j hj => hall j (by omega)
theorem each64_ok (n : Nat) (ex : Bool) (fl : Nat → Int) (g0 : FuncId) (first caps : List AV) (p : Nat → Bool) (hb : Below 0 (.fn (.func g0) first caps)) (hn : n < 4611686018427387904) (hp : ∀ i, i < n → Pure Try.prog g0 (first ++ [iV i, iV (fl i)] ++ caps) (.sb (p i))) :
    Pure Try.prog 109 [intsV n ex fl, .fn (.func g0) first caps] (.sb (allN n p)) := by
  obtain ⟨O, hO⟩ : ∃ O : Ar, O = std := ⟨_, rfl⟩
  have hnat : ∀ i : Nat, O.nat (Int.ofNat i) = i := fun i => by subst hO; rfl
  refine pure_of_body tok 3 Try.func109 en109 rfl ⟨intsV_below n ex fl, hb, trivial⟩ Below.sb ?_
  refine SW.seqRun tok hO (by cbv <;> rfl) (by trivial) ?_
  refine SW.seq ?_
  refine SW.seqRun tok hO (by cbv <;> rfl) (by trivial) ?_
  refine (SW.block (SW.loopF (fun i : Nat => ⟨⟨20, getT [(1, .fn (.func g0) first caps), (7, intsV n ex fl), (8, iV n), (9, iV i)]⟩, []⟩) (fun _ => ⟨[], 0⟩) (fun i => n - i) (fun i => i ≤ n ∧ ∀ j, j < i → p j = true) 0
    (fun _ => rfl) ⟨Nat.zero_le _, fun j hj => absurd hj (Nat.not_lt_zero j)⟩ (Weak.by rfl rfl (by simp) (Nat.le_refl _) (Nat.le_refl _) ⟨⟨rfl, .inl rfl⟩, ⟨rfl, .inl rfl⟩, ⟨rfl, .inl rfl⟩, ⟨rfl, .inl rfl⟩, trivial⟩ trivial) fun i ⟨hi, hall⟩ => ?_))
  refine SW.seqRun tok hO (by cbv <;> rfl) (by trivial) ?_
  refine SW.seq (SW.condS (by cbv <;> rfl) (fun h => SW.skip ?_) (fun h => SW.exit ?_))
  · have hlt : i < n := by subst hO; simpa [std] using h
    refine SW.seq (SW.block ?_)
    refine SW.seqRun tok hO (by cbv <;> rfl) ?_ ?_
    · exact ⟨Int.natCast_nonneg i, Int.ofNat_lt.2 hlt⟩
    refine SW.seqRun tok hO (by cbv <;> rfl) (by trivial) ?_
    refine OpsW.callB (e := p i) (args := first ++ [iV (Int.ofNat i), iV (fl (O.nat (Int.ofNat i)))] ++ caps) (by rw [hnat]; exact hp i hlt) (by cbv <;> rfl) fun b hb' => ?_
    refine OpsW.run tok hO (by cbv <;> rfl) (by trivial) ?_
    refine SW.condS (by cbv <;> rfl) (fun h' => ?_) (fun h' => SW.skip ?_)
    · refine SW.seqRun tok hO (by cbv <;> rfl) (by trivial) ?_
      refine SW.ret ⟨_, _, rfl, rfl, Eqv.bool (Bool.eq_iff_iff.2 ?_)⟩
      subst hO
      simp [std, hb'] at h'
      simp only [Bool.false_eq_true, allN, decide_eq_true_eq, false_iff]
      intro hq
      rw [hq i hlt] at h'
      cases h'
    · refine SW.run tok hO (by cbv <;> rfl) (by trivial) ?_
      refine ⟨i + 1, by omega, ⟨by omega, fun j hj => ?_⟩, Weak.by rfl rfl (by simp) (Nat.le_refl _) (Nat.zero_le _) ⟨⟨rfl, .inr hb⟩, ⟨rfl, .inr (intsV_below n ex fl)⟩, ⟨rfl, .inr iV_below⟩, ⟨inc_ok hO (by omega), .inr iV_below⟩, trivial⟩ trivial⟩
      rcases Nat.lt_succ_iff_lt_or_eq.1 hj with hj | rfl
      · exact hall j hj
      · subst hO; simp [std, hb'] at h'; exact h'
  · refine SW.seqRun tok hO (by cbv <;> rfl) (by trivial) ?_
    refine SW.ret ⟨_, _, rfl, rfl, Eqv.bool (Bool.eq_iff_iff.2 ?_)⟩
    have hge : n ≤ i := by subst hO; simpa [std] using h
    simp only [allN, decide_eq_true_eq, true_iff]
    exact fun j hj => hall j (by omega)
end Go.Fz
namespace Go.Fz
open Go.Proofs
set_option maxRecDepth 100000
def kindF (i : Nat) : AV := match i with
  | 0 => .fn (.func 129) [] []
  | 1 => .fn (.func 130) [] []
  | 2 => .fn (.func 131) [] []
  | 3 => .fn (.func 132) [] []
  | 4 => .fn (.func 133) [] []
  | _ => .fn (.func 134) [] []
def kindB (i : Nat) : Bool := match i with
  | 0 => true
  | 1 => true
  | _ => false
def kindC (i k : Nat) : AV := match k with
  | 0 => kindF i
  | _ => .sb (kindB i)
theorem kindF_below (i : Nat) : Below 0 (kindF i) := by unfold kindF; split <;> exact Below.fn (AllB.ok trivial) (AllB.ok trivial)
theorem kindC_below : Below 0 (.isl 6 2 true kindC) := Below.isl fun i k _ _ => by
  unfold kindC; split
  · exact kindF_below i
  · exact Below.sb
theorem kinds_ok : Pure Try.prog 128 [] (.isl 6 2 true kindC) := by
  obtain ⟨O, hO⟩ : ∃ O : Ar, O = std := ⟨_, rfl⟩
  refine pure_of_body tok 3 Try.func128 en128 rfl trivial kindC_below ?_
  refine SW.seqRun tok hO (by cbv <;> rfl) (by trivial) ?_
  refine SW.seqRun tok hO (by cbv <;> rfl) (by trivial) ?_
  refine SW.ret ⟨_, _, rfl, rfl, ?_⟩
  refine Eqv.isl rfl fun i k hi hk => ?_
  match i, k, hi, hk with
  | 0, 0, _, _ => exact Eqv.of rfl
  | 1, 0, _, _ => exact Eqv.of rfl
  | 2, 0, _, _ => exact Eqv.of rfl
  | 3, 0, _, _ => exact Eqv.of rfl
  | 4, 0, _, _ => exact Eqv.of rfl
  | 5, 0, _, _ => exact Eqv.of rfl
  | 0, 1, _, _ => exact Eqv.bool rfl
  | 1, 1, _, _ => exact Eqv.bool rfl
  | 2, 1, _, _ => exact Eqv.bool rfl
  | 3, 1, _, _ => exact Eqv.bool rfl
  | 4, 1, _, _ => exact Eqv.bool rfl
  | 5, 1, _, _ => exact Eqv.bool rfl
theorem hasKind_ok (c w lo hi : Int) : Pure Try.prog 127 [.agg [iV c, iV w, iV lo, iV hi]] (.sb (decide (0 ≤ c) && decide (c < 6))) := by
  obtain ⟨O, hO⟩ : ∃ O : Ar, O = std := ⟨_, rfl⟩
  obtain ⟨G, hG⟩ : ∃ G, G = kindC := ⟨_, rfl⟩
  have hk := kinds_ok
  rw [← hG] at hk
  refine pure_of_body tok 3 Try.func127 en127 rfl ⟨Below.agg (AllB.ok ⟨Below.lit, Below.lit, Below.lit, Below.lit, trivial⟩), trivial⟩ Below.sb ?_
  refine SW.seqRun tok hO (by cbv <;> rfl) (by trivial) ?_
  refine SW.seqRunD tok mixed hO (by rfl) (by cbv <;> rfl) (by trivial) ?_
  refine AnyE.dec tok hO (by rfl) (by cbv <;> rfl) (by trivial) (fun h1 => ?_) (fun h1 => ?_)
  · refine AnyE.run tok hO (by rfl) (by cbv <;> rfl) (by trivial) ?_
    refine AnyE.callP hk (by cbv <;> rfl) (by cbv <;> rfl) ?_
    refine AnyE.run tok hO (by rfl) (by cbv <;> rfl) (by trivial) ?_
    refine AnyE.dec tok hO (by rfl) (by cbv <;> rfl) (by trivial) (fun h2 => ?_) (fun h2 => ?_)
    all_goals
      refine AnyE.run tok hO (by rfl) (by cbv <;> rfl) (by trivial) ?_
      refine SW.ret ⟨_, _, rfl, rfl, Eqv.bool ?_⟩
      subst hO; simp [std] at h1 h2; simp [h1, h2]
  · refine AnyE.run tok hO (by rfl) (by cbv <;> rfl) (by trivial) ?_
    refine SW.ret ⟨_, _, rfl, rfl, Eqv.bool ?_⟩
    subst hO; simp [std] at h1 ⊢; omega
theorem kind0_ok (w lo hi : Int) : Pure Try.prog 125 [.agg [iV 0, iV w, iV lo, iV hi]] (.agg [.fn (.func 129) [] [], .sb true]) := by
  obtain ⟨O, hO⟩ : ∃ O : Ar, O = std := ⟨_, rfl⟩
  refine pure_of_body tok 3 Try.func125 en125 rfl ⟨Below.agg (AllB.ok ⟨Below.lit, Below.lit, Below.lit, Below.lit, trivial⟩), trivial⟩ (Below.agg (AllB.ok ⟨Below.fn (AllB.ok trivial) (AllB.ok trivial), Below.sb, trivial⟩)) ?_
  refine SW.seqRun tok hO (by cbv <;> rfl) (by trivial) ?_
  refine SW.seqRunD tok mixed hO (by rfl) (by cbv <;> rfl) (by trivial) ?_
  refine AnyE.callP kinds_ok (by cbv <;> rfl) (by cbv <;> rfl) ?_
  subst hO
  refine AnyE.run tok rfl (by rfl) (by cbv <;> rfl) ?_ ?_
  · exact ⟨by show (0 : Int) ≤ 0; decide, by show (0 : Int) < 6; decide⟩
  refine AnyE.eff tok rfl (by cbv <;> rfl) (by cbv <;> rfl) (by trivial) ?_
  refine AnyE.done (by rfl) ?_
  exact SW.ret ⟨_, _, rfl, rfl, Eqv.agg (.cons (Eqv.of rfl) (.cons (Eqv.of rfl) .nil))⟩
theorem kind1_ok (w lo hi : Int) : Pure Try.prog 125 [.agg [iV 1, iV w, iV lo, iV hi]] (.agg [.fn (.func 130) [] [], .sb true]) := by
  obtain ⟨O, hO⟩ : ∃ O : Ar, O = std := ⟨_, rfl⟩
  refine pure_of_body tok 3 Try.func125 en125 rfl ⟨Below.agg (AllB.ok ⟨Below.lit, Below.lit, Below.lit, Below.lit, trivial⟩), trivial⟩ (Below.agg (AllB.ok ⟨Below.fn (AllB.ok trivial) (AllB.ok trivial), Below.sb, trivial⟩)) ?_
  refine SW.seqRun tok hO (by cbv <;> rfl) (by trivial) ?_
  refine SW.seqRunD tok mixed hO (by rfl) (by cbv <;> rfl) (by trivial) ?_
  refine AnyE.callP kinds_ok (by cbv <;> rfl) (by cbv <;> rfl) ?_
  subst hO
  refine AnyE.run tok rfl (by rfl) (by cbv <;> rfl) ?_ ?_
  · exact ⟨by show (0 : Int) ≤ 1; decide, by show (1 : Int) < 6; decide⟩
  refine AnyE.eff tok rfl (by cbv <;> rfl) (by cbv <;> rfl) (by trivial) ?_
  refine AnyE.done (by rfl) ?_
  exact SW.ret ⟨_, _, rfl, rfl, Eqv.agg (.cons (Eqv.of rfl) (.cons (Eqv.of rfl) .nil))⟩
theorem kind2_ok (w lo hi : Int) : Pure Try.prog 125 [.agg [iV 2, iV w, iV lo, iV hi]] (.agg [.fn (.func 131) [] [], .sb false]) := by
  obtain ⟨O, hO⟩ : ∃ O : Ar, O = std := ⟨_, rfl⟩
  refine pure_of_body tok 3 Try.func125 en125 rfl ⟨Below.agg (AllB.ok ⟨Below.lit, Below.lit, Below.lit, Below.lit, trivial⟩), trivial⟩ (Below.agg (AllB.ok ⟨Below.fn (AllB.ok trivial) (AllB.ok trivial), Below.sb, trivial⟩)) ?_
  refine SW.seqRun tok hO (by cbv <;> rfl) (by trivial) ?_
  refine SW.seqRunD tok mixed hO (by rfl) (by cbv <;> rfl) (by trivial) ?_
  refine AnyE.callP kinds_ok (by cbv <;> rfl) (by cbv <;> rfl) ?_
  subst hO
  refine AnyE.run tok rfl (by rfl) (by cbv <;> rfl) ?_ ?_
  · exact ⟨by show (0 : Int) ≤ 2; decide, by show (2 : Int) < 6; decide⟩
  refine AnyE.eff tok rfl (by cbv <;> rfl) (by cbv <;> rfl) (by trivial) ?_
  refine AnyE.done (by rfl) ?_
  exact SW.ret ⟨_, _, rfl, rfl, Eqv.agg (.cons (Eqv.of rfl) (.cons (Eqv.of rfl) .nil))⟩
theorem kind3_ok (w lo hi : Int) : Pure Try.prog 125 [.agg [iV 3, iV w, iV lo, iV hi]] (.agg [.fn (.func 132) [] [], .sb false]) := by
  obtain ⟨O, hO⟩ : ∃ O : Ar, O = std := ⟨_, rfl⟩
  refine pure_of_body tok 3 Try.func125 en125 rfl ⟨Below.agg (AllB.ok ⟨Below.lit, Below.lit, Below.lit, Below.lit, trivial⟩), trivial⟩ (Below.agg (AllB.ok ⟨Below.fn (AllB.ok trivial) (AllB.ok trivial), Below.sb, trivial⟩)) ?_
  refine SW.seqRun tok hO (by cbv <;> rfl) (by trivial) ?_
  refine SW.seqRunD tok mixed hO (by rfl) (by cbv <;> rfl) (by trivial) ?_
  refine AnyE.callP kinds_ok (by cbv <;> rfl) (by cbv <;> rfl) ?_
  subst hO
  refine AnyE.run tok rfl (by rfl) (by cbv <;> rfl) ?_ ?_
  · exact ⟨by show (0 : Int) ≤ 3; decide, by show (3 : Int) < 6; decide⟩
  refine AnyE.eff tok rfl (by cbv <;> rfl) (by cbv <;> rfl) (by trivial) ?_
  refine AnyE.done (by rfl) ?_
  exact SW.ret ⟨_, _, rfl, rfl, Eqv.agg (.cons (Eqv.of rfl) (.cons (Eqv.of rfl) .nil))⟩
theorem kind4_ok (w lo hi : Int) : Pure Try.prog 125 [.agg [iV 4, iV w, iV lo, iV hi]] (.agg [.fn (.func 133) [] [], .sb false]) := by
  obtain ⟨O, hO⟩ : ∃ O : Ar, O = std := ⟨_, rfl⟩
  refine pure_of_body tok 3 Try.func125 en125 rfl ⟨Below.agg (AllB.ok ⟨Below.lit, Below.lit, Below.lit, Below.lit, trivial⟩), trivial⟩ (Below.agg (AllB.ok ⟨Below.fn (AllB.ok trivial) (AllB.ok trivial), Below.sb, trivial⟩)) ?_
  refine SW.seqRun tok hO (by cbv <;> rfl) (by trivial) ?_
  refine SW.seqRunD tok mixed hO (by rfl) (by cbv <;> rfl) (by trivial) ?_
  refine AnyE.callP kinds_ok (by cbv <;> rfl) (by cbv <;> rfl) ?_
  subst hO
  refine AnyE.run tok rfl (by rfl) (by cbv <;> rfl) ?_ ?_
  · exact ⟨by show (0 : Int) ≤ 4; decide, by show (4 : Int) < 6; decide⟩
  refine AnyE.eff tok rfl (by cbv <;> rfl) (by cbv <;> rfl) (by trivial) ?_
  refine AnyE.done (by rfl) ?_
  exact SW.ret ⟨_, _, rfl, rfl, Eqv.agg (.cons (Eqv.of rfl) (.cons (Eqv.of rfl) .nil))⟩
theorem kind5_ok (w lo hi : Int) : Pure Try.prog 125 [.agg [iV 5, iV w, iV lo, iV hi]] (.agg [.fn (.func 134) [] [], .sb false]) := by
  obtain ⟨O, hO⟩ : ∃ O : Ar, O = std := ⟨_, rfl⟩
  refine pure_of_body tok 3 Try.func125 en125 rfl ⟨Below.agg (AllB.ok ⟨Below.lit, Below.lit, Below.lit, Below.lit, trivial⟩), trivial⟩ (Below.agg (AllB.ok ⟨Below.fn (AllB.ok trivial) (AllB.ok trivial), Below.sb, trivial⟩)) ?_
  refine SW.seqRun tok hO (by cbv <;> rfl) (by trivial) ?_
  refine SW.seqRunD tok mixed hO (by rfl) (by cbv <;> rfl) (by trivial) ?_
  refine AnyE.callP kinds_ok (by cbv <;> rfl) (by cbv <;> rfl) ?_
  subst hO
  refine AnyE.run tok rfl (by rfl) (by cbv <;> rfl) ?_ ?_
  · exact ⟨by show (0 : Int) ≤ 5; decide, by show (5 : Int) < 6; decide⟩
  refine AnyE.eff tok rfl (by cbv <;> rfl) (by cbv <;> rfl) (by trivial) ?_
  refine AnyE.done (by rfl) ?_
  exact SW.ret ⟨_, _, rfl, rfl, Eqv.agg (.cons (Eqv.of rfl) (.cons (Eqv.of rfl) .nil))⟩
def DayD.cntOk (d : DayD) (i : Nat) : Bool := (decide (0 ≤ d.ck i) && decide (d.ck i < 6)) && d.hasW (d.cw i) && (decide (d.cw i = 0) || decide (d.ck i < 2)) && withinB (d.clo i) (d.chi i) 0 20000
theorem isCount0_ok (d : DayD) (j w lo hi : Int) : Pure Try.prog 119 [dayV d, iV j, .agg [iV 0, iV w, iV lo, iV hi]] (.sb (d.hasW w && (decide (w = 0) || true) && withinB lo hi 0 20000)) := by
  obtain ⟨O, hO⟩ : ∃ O : Ar, O = std := ⟨_, rfl⟩
  refine pure_of_body tok 3 Try.func119 en119 rfl ⟨dayV_below d, iV_below, Below.agg (AllB.ok ⟨Below.lit, Below.lit, Below.lit, Below.lit, trivial⟩), trivial⟩ Below.sb ?_
  refine SW.seqRun tok hO (by cbv <;> rfl) (by trivial) ?_
  refine SW.seqRun tok hO (by cbv <;> rfl) (by trivial) ?_
  refine OpsW.callP ((hasKind_ok 0 w lo hi).res (Eqv.lit (c := true) (by decide))) (by cbv <;> rfl) ?_
  refine OpsW.run tok hO (by cbv <;> rfl) (by trivial) ?_
  refine OpsW.callB (hasWoman_ok d w) (by cbv <;> rfl) fun b1 hb1 => ?_
  rw [← hb1]
  refine OpsW.run tok hO (by cbv <;> rfl) (by trivial) ?_
  refine OpsW.splitG (by cbv <;> rfl) (fun h1 => ?_) (fun h1 => ?_) <;> refine OpsW.run tok hO (by cbv <;> rfl) (by trivial) ?_
  · subst h1
    refine OpsW.splitG (by cbv <;> rfl) (fun h2 => ?_) (fun h2 => ?_) <;> refine OpsW.run tok hO (by cbv <;> rfl) (by trivial) ?_
    · refine OpsW.callB (within_ok lo hi 0 20000) (by cbv <;> rfl) fun b2 hb2 => ?_
      refine OpsW.run tok hO (by cbv <;> rfl) (by trivial) ?_
      refine SW.ret ⟨_, _, rfl, rfl, Eqv.sb ?_⟩
      subst hO; simp [std] at h2; simp [h2, hb2]
    · refine OpsW.callP ((kind0_ok w lo hi).res (Eqv.agg (.cons (Eqv.refl _) (.cons (Eqv.lit (c := true) rfl) .nil)))) (by cbv <;> rfl) ?_
      refine OpsW.run tok hO (by cbv <;> rfl) (by trivial) ?_
      refine OpsW.callB (within_ok lo hi 0 20000) (by cbv <;> rfl) fun b2 hb2 => ?_
      refine OpsW.run tok hO (by cbv <;> rfl) (by trivial) ?_
      refine SW.ret ⟨_, _, rfl, rfl, Eqv.sb ?_⟩
      simp [hb2]
  · refine SW.ret ⟨_, _, rfl, rfl, Eqv.bool ?_⟩
    rw [h1]; rfl
theorem isCount1_ok (d : DayD) (j w lo hi : Int) : Pure Try.prog 119 [dayV d, iV j, .agg [iV 1, iV w, iV lo, iV hi]] (.sb (d.hasW w && (decide (w = 0) || true) && withinB lo hi 0 20000)) := by
  obtain ⟨O, hO⟩ : ∃ O : Ar, O = std := ⟨_, rfl⟩
  refine pure_of_body tok 3 Try.func119 en119 rfl ⟨dayV_below d, iV_below, Below.agg (AllB.ok ⟨Below.lit, Below.lit, Below.lit, Below.lit, trivial⟩), trivial⟩ Below.sb ?_
  refine SW.seqRun tok hO (by cbv <;> rfl) (by trivial) ?_
  refine SW.seqRun tok hO (by cbv <;> rfl) (by trivial) ?_
  refine OpsW.callP ((hasKind_ok 1 w lo hi).res (Eqv.lit (c := true) (by decide))) (by cbv <;> rfl) ?_
  refine OpsW.run tok hO (by cbv <;> rfl) (by trivial) ?_
  refine OpsW.callB (hasWoman_ok d w) (by cbv <;> rfl) fun b1 hb1 => ?_
  rw [← hb1]
  refine OpsW.run tok hO (by cbv <;> rfl) (by trivial) ?_
  refine OpsW.splitG (by cbv <;> rfl) (fun h1 => ?_) (fun h1 => ?_) <;> refine OpsW.run tok hO (by cbv <;> rfl) (by trivial) ?_
  · subst h1
    refine OpsW.splitG (by cbv <;> rfl) (fun h2 => ?_) (fun h2 => ?_) <;> refine OpsW.run tok hO (by cbv <;> rfl) (by trivial) ?_
    · refine OpsW.callB (within_ok lo hi 0 20000) (by cbv <;> rfl) fun b2 hb2 => ?_
      refine OpsW.run tok hO (by cbv <;> rfl) (by trivial) ?_
      refine SW.ret ⟨_, _, rfl, rfl, Eqv.sb ?_⟩
      subst hO; simp [std] at h2; simp [h2, hb2]
    · refine OpsW.callP ((kind1_ok w lo hi).res (Eqv.agg (.cons (Eqv.refl _) (.cons (Eqv.lit (c := true) rfl) .nil)))) (by cbv <;> rfl) ?_
      refine OpsW.run tok hO (by cbv <;> rfl) (by trivial) ?_
      refine OpsW.callB (within_ok lo hi 0 20000) (by cbv <;> rfl) fun b2 hb2 => ?_
      refine OpsW.run tok hO (by cbv <;> rfl) (by trivial) ?_
      refine SW.ret ⟨_, _, rfl, rfl, Eqv.sb ?_⟩
      simp [hb2]
  · refine SW.ret ⟨_, _, rfl, rfl, Eqv.bool ?_⟩
    rw [h1]; rfl
theorem isCount2_ok (d : DayD) (j w lo hi : Int) : Pure Try.prog 119 [dayV d, iV j, .agg [iV 2, iV w, iV lo, iV hi]] (.sb (d.hasW w && (decide (w = 0) || false) && withinB lo hi 0 20000)) := by
  obtain ⟨O, hO⟩ : ∃ O : Ar, O = std := ⟨_, rfl⟩
  refine pure_of_body tok 3 Try.func119 en119 rfl ⟨dayV_below d, iV_below, Below.agg (AllB.ok ⟨Below.lit, Below.lit, Below.lit, Below.lit, trivial⟩), trivial⟩ Below.sb ?_
  refine SW.seqRun tok hO (by cbv <;> rfl) (by trivial) ?_
  refine SW.seqRun tok hO (by cbv <;> rfl) (by trivial) ?_
  refine OpsW.callP ((hasKind_ok 2 w lo hi).res (Eqv.lit (c := true) (by decide))) (by cbv <;> rfl) ?_
  refine OpsW.run tok hO (by cbv <;> rfl) (by trivial) ?_
  refine OpsW.callB (hasWoman_ok d w) (by cbv <;> rfl) fun b1 hb1 => ?_
  rw [← hb1]
  refine OpsW.run tok hO (by cbv <;> rfl) (by trivial) ?_
  refine OpsW.splitG (by cbv <;> rfl) (fun h1 => ?_) (fun h1 => ?_) <;> refine OpsW.run tok hO (by cbv <;> rfl) (by trivial) ?_
  · subst h1
    refine OpsW.splitG (by cbv <;> rfl) (fun h2 => ?_) (fun h2 => ?_) <;> refine OpsW.run tok hO (by cbv <;> rfl) (by trivial) ?_
    · refine OpsW.callB (within_ok lo hi 0 20000) (by cbv <;> rfl) fun b2 hb2 => ?_
      refine OpsW.run tok hO (by cbv <;> rfl) (by trivial) ?_
      refine SW.ret ⟨_, _, rfl, rfl, Eqv.sb ?_⟩
      subst hO; simp [std] at h2; simp [h2, hb2]
    · refine OpsW.callP ((kind2_ok w lo hi).res (Eqv.agg (.cons (Eqv.refl _) (.cons (Eqv.lit (c := false) rfl) .nil)))) (by cbv <;> rfl) ?_
      refine OpsW.run tok hO (by cbv <;> rfl) (by trivial) ?_
      refine SW.ret ⟨_, _, rfl, rfl, Eqv.bool ?_⟩
      subst hO; simp [std] at h2; simp [h2]
  · refine SW.ret ⟨_, _, rfl, rfl, Eqv.bool ?_⟩
    rw [h1]; rfl
theorem isCount3_ok (d : DayD) (j w lo hi : Int) : Pure Try.prog 119 [dayV d, iV j, .agg [iV 3, iV w, iV lo, iV hi]] (.sb (d.hasW w && (decide (w = 0) || false) && withinB lo hi 0 20000)) := by
  obtain ⟨O, hO⟩ : ∃ O : Ar, O = std := ⟨_, rfl⟩
  refine pure_of_body tok 3 Try.func119 en119 rfl ⟨dayV_below d, iV_below, Below.agg (AllB.ok ⟨Below.lit, Below.lit, Below.lit, Below.lit, trivial⟩), trivial⟩ Below.sb ?_
  refine SW.seqRun tok hO (by cbv <;> rfl) (by trivial) ?_
  refine SW.seqRun tok hO (by cbv <;> rfl) (by trivial) ?_
  refine OpsW.callP ((hasKind_ok 3 w lo hi).res (Eqv.lit (c := true) (by decide))) (by cbv <;> rfl) ?_
  refine OpsW.run tok hO (by cbv <;> rfl) (by trivial) ?_
  refine OpsW.callB (hasWoman_ok d w) (by cbv <;> rfl) fun b1 hb1 => ?_
  rw [← hb1]
  refine OpsW.run tok hO (by cbv <;> rfl) (by trivial) ?_
  refine OpsW.splitG (by cbv <;> rfl) (fun h1 => ?_) (fun h1 => ?_) <;> refine OpsW.run tok hO (by cbv <;> rfl) (by trivial) ?_
  · subst h1
    refine OpsW.splitG (by cbv <;> rfl) (fun h2 => ?_) (fun h2 => ?_) <;> refine OpsW.run tok hO (by cbv <;> rfl) (by trivial) ?_
    · refine OpsW.callB (within_ok lo hi 0 20000) (by cbv <;> rfl) fun b2 hb2 => ?_
      refine OpsW.run tok hO (by cbv <;> rfl) (by trivial) ?_
      refine SW.ret ⟨_, _, rfl, rfl, Eqv.sb ?_⟩
      subst hO; simp [std] at h2; simp [h2, hb2]
    · refine OpsW.callP ((kind3_ok w lo hi).res (Eqv.agg (.cons (Eqv.refl _) (.cons (Eqv.lit (c := false) rfl) .nil)))) (by cbv <;> rfl) ?_
      refine OpsW.run tok hO (by cbv <;> rfl) (by trivial) ?_
      refine SW.ret ⟨_, _, rfl, rfl, Eqv.bool ?_⟩
      subst hO; simp [std] at h2; simp [h2]
  · refine SW.ret ⟨_, _, rfl, rfl, Eqv.bool ?_⟩
    rw [h1]; rfl
theorem isCount4_ok (d : DayD) (j w lo hi : Int) : Pure Try.prog 119 [dayV d, iV j, .agg [iV 4, iV w, iV lo, iV hi]] (.sb (d.hasW w && (decide (w = 0) || false) && withinB lo hi 0 20000)) := by
  obtain ⟨O, hO⟩ : ∃ O : Ar, O = std := ⟨_, rfl⟩
  refine pure_of_body tok 3 Try.func119 en119 rfl ⟨dayV_below d, iV_below, Below.agg (AllB.ok ⟨Below.lit, Below.lit, Below.lit, Below.lit, trivial⟩), trivial⟩ Below.sb ?_
  refine SW.seqRun tok hO (by cbv <;> rfl) (by trivial) ?_
  refine SW.seqRun tok hO (by cbv <;> rfl) (by trivial) ?_
  refine OpsW.callP ((hasKind_ok 4 w lo hi).res (Eqv.lit (c := true) (by decide))) (by cbv <;> rfl) ?_
  refine OpsW.run tok hO (by cbv <;> rfl) (by trivial) ?_
  refine OpsW.callB (hasWoman_ok d w) (by cbv <;> rfl) fun b1 hb1 => ?_
  rw [← hb1]
  refine OpsW.run tok hO (by cbv <;> rfl) (by trivial) ?_
  refine OpsW.splitG (by cbv <;> rfl) (fun h1 => ?_) (fun h1 => ?_) <;> refine OpsW.run tok hO (by cbv <;> rfl) (by trivial) ?_
  · subst h1
    refine OpsW.splitG (by cbv <;> rfl) (fun h2 => ?_) (fun h2 => ?_) <;> refine OpsW.run tok hO (by cbv <;> rfl) (by trivial) ?_
    · refine OpsW.callB (within_ok lo hi 0 20000) (by cbv <;> rfl) fun b2 hb2 => ?_
      refine OpsW.run tok hO (by cbv <;> rfl) (by trivial) ?_
      refine SW.ret ⟨_, _, rfl, rfl, Eqv.sb ?_⟩
      subst hO; simp [std] at h2; simp [h2, hb2]
    · refine OpsW.callP ((kind4_ok w lo hi).res (Eqv.agg (.cons (Eqv.refl _) (.cons (Eqv.lit (c := false) rfl) .nil)))) (by cbv <;> rfl) ?_
      refine OpsW.run tok hO (by cbv <;> rfl) (by trivial) ?_
      refine SW.ret ⟨_, _, rfl, rfl, Eqv.bool ?_⟩
      subst hO; simp [std] at h2; simp [h2]
  · refine SW.ret ⟨_, _, rfl, rfl, Eqv.bool ?_⟩
    rw [h1]; rfl
theorem isCount5_ok (d : DayD) (j w lo hi : Int) : Pure Try.prog 119 [dayV d, iV j, .agg [iV 5, iV w, iV lo, iV hi]] (.sb (d.hasW w && (decide (w = 0) || false) && withinB lo hi 0 20000)) := by
  obtain ⟨O, hO⟩ : ∃ O : Ar, O = std := ⟨_, rfl⟩
  refine pure_of_body tok 3 Try.func119 en119 rfl ⟨dayV_below d, iV_below, Below.agg (AllB.ok ⟨Below.lit, Below.lit, Below.lit, Below.lit, trivial⟩), trivial⟩ Below.sb ?_
  refine SW.seqRun tok hO (by cbv <;> rfl) (by trivial) ?_
  refine SW.seqRun tok hO (by cbv <;> rfl) (by trivial) ?_
  refine OpsW.callP ((hasKind_ok 5 w lo hi).res (Eqv.lit (c := true) (by decide))) (by cbv <;> rfl) ?_
  refine OpsW.run tok hO (by cbv <;> rfl) (by trivial) ?_
  refine OpsW.callB (hasWoman_ok d w) (by cbv <;> rfl) fun b1 hb1 => ?_
  rw [← hb1]
  refine OpsW.run tok hO (by cbv <;> rfl) (by trivial) ?_
  refine OpsW.splitG (by cbv <;> rfl) (fun h1 => ?_) (fun h1 => ?_) <;> refine OpsW.run tok hO (by cbv <;> rfl) (by trivial) ?_
  · subst h1
    refine OpsW.splitG (by cbv <;> rfl) (fun h2 => ?_) (fun h2 => ?_) <;> refine OpsW.run tok hO (by cbv <;> rfl) (by trivial) ?_
    · refine OpsW.callB (within_ok lo hi 0 20000) (by cbv <;> rfl) fun b2 hb2 => ?_
      refine OpsW.run tok hO (by cbv <;> rfl) (by trivial) ?_
      refine SW.ret ⟨_, _, rfl, rfl, Eqv.sb ?_⟩
      subst hO; simp [std] at h2; simp [h2, hb2]
    · refine OpsW.callP ((kind5_ok w lo hi).res (Eqv.agg (.cons (Eqv.refl _) (.cons (Eqv.lit (c := false) rfl) .nil)))) (by cbv <;> rfl) ?_
      refine OpsW.run tok hO (by cbv <;> rfl) (by trivial) ?_
      refine SW.ret ⟨_, _, rfl, rfl, Eqv.bool ?_⟩
      subst hO; simp [std] at h2; simp [h2]
  · refine SW.ret ⟨_, _, rfl, rfl, Eqv.bool ?_⟩
    rw [h1]; rfl
theorem isCount_ok (d : DayD) (i : Nat) (j : Int) : Pure Try.prog 119 [dayV d, iV j, cntV d i] (.sb (d.cntOk i)) := by
  by_cases h : 0 ≤ d.ck i ∧ d.ck i < 6
  · have hc : d.ck i = 0 ∨ d.ck i = 1 ∨ d.ck i = 2 ∨ d.ck i = 3 ∨ d.ck i = 4 ∨ d.ck i = 5 := by omega
    unfold cntV DayD.cntOk
    rcases hc with h | h | h | h | h | h <;> rw [h]
    · exact (isCount0_ok d j _ _ _).res (Eqv.sb (by simp))
    · exact (isCount1_ok d j _ _ _).res (Eqv.sb (by simp))
    · exact (isCount2_ok d j _ _ _).res (Eqv.sb (by simp))
    · exact (isCount3_ok d j _ _ _).res (Eqv.sb (by simp))
    · exact (isCount4_ok d j _ _ _).res (Eqv.sb (by simp))
    · exact (isCount5_ok d j _ _ _).res (Eqv.sb (by simp))
  · have hk : (decide (0 ≤ d.ck i) && decide (d.ck i < 6)) = false := by
      rw [Bool.eq_false_iff]; intro h1; simp at h1; exact h h1
    have hcall := hasKind_ok (d.ck i) (d.cw i) (d.clo i) (d.chi i)
    rw [hk] at hcall
    refine (?_ : Pure Try.prog 119 [dayV d, iV j, cntV d i] (.sb false)).res (Eqv.sb (by simp [DayD.cntOk, hk]))
    obtain ⟨O, hO⟩ : ∃ O : Ar, O = std := ⟨_, rfl⟩
    refine pure_of_body tok 3 Try.func119 en119 rfl ⟨dayV_below d, iV_below, cntV_below d i, trivial⟩ Below.sb ?_
    refine SW.seqRun tok hO (by cbv <;> rfl) (by trivial) ?_
    refine SW.seqRun tok hO (by cbv <;> rfl) (by trivial) ?_
    refine OpsW.callP (hcall.res (Eqv.lit (c := false) rfl)) (by cbv <;> rfl) ?_
    refine OpsW.run tok hO (by cbv <;> rfl) (by trivial) ?_
    exact SW.ret ⟨_, _, rfl, rfl, Eqv.bool rfl⟩
def bet (n a b : Int) : Bool := decide (a ≤ n) && decide (n ≤ b)
def DayD.validB (d : DayD) : Bool := bet d.hand 1 20 && bet d.flat 1 20 && decide (0 < d.nw) && allN d.nw (fun i => withinB (d.wlo i) (d.whi i) 1 60) && allN d.nl d.lotOk && allN d.nc d.cntOk
def DayD.small (d : DayD) : Prop := d.nw < 4611686018427387904 ∧ d.nl < 4611686018427387904 ∧ d.nc < 4611686018427387904
theorem valid_ok (d : DayD) (hs : d.small) : Pure Try.prog 86 [dayV d] (.sb d.validB) := by
  obtain ⟨O, hO⟩ : ∃ O : Ar, O = std := ⟨_, rfl⟩
  have e1 := each70_ok d 115 [] [] (fun i => withinB (d.wlo i) (d.whi i) 1 60) (Below.fn (AllB.ok trivial) (AllB.ok trivial)) hs.1 (fun i hi => isWoman_ok i (d.wlo i) (d.whi i))
  have e2 := each72_ok d 117 [dayV d] [] d.lotOk (Below.fn (AllB.ok ⟨dayV_below d, trivial⟩) (AllB.ok trivial)) hs.2.1 (fun i hi => isLot_ok d i i)
  have e3 := each74_ok d 119 [dayV d] [] d.cntOk (Below.fn (AllB.ok ⟨dayV_below d, trivial⟩) (AllB.ok trivial)) hs.2.2 (fun i hi => isCount_ok d i i)
  generalize hp1 : allN d.nw (fun i => withinB (d.wlo i) (d.whi i) 1 60) = p1 at e1
  generalize hp2 : allN d.nl d.lotOk = p2 at e2
  generalize hp3 : allN d.nc d.cntOk = p3 at e3
  have hv : d.validB = (bet d.hand 1 20 && bet d.flat 1 20 && decide (0 < d.nw) && p1 && p2 && p3) := by rw [← hp1, ← hp2, ← hp3]; rfl
  rw [hv]
  refine pure_of_body tok 3 Try.func86 en86 rfl ⟨dayV_below d, trivial⟩ Below.sb ?_
  refine SW.seqRun tok hO (by cbv <;> rfl) (by trivial) ?_
  refine SW.seqRun tok hO (by cbv <;> rfl) (by trivial) ?_
  refine OpsW.splitG (by cbv <;> rfl) (fun a1 => ?_) (fun a1 => ?_) <;> refine OpsW.run tok hO (by cbv <;> rfl) (by trivial) ?_
  · refine OpsW.splitG (by cbv <;> rfl) (fun a2 => ?_) (fun a2 => ?_) <;> refine OpsW.run tok hO (by cbv <;> rfl) (by trivial) ?_
    · refine OpsW.splitG (by cbv <;> rfl) (fun a3 => ?_) (fun a3 => ?_) <;> refine OpsW.run tok hO (by cbv <;> rfl) (by trivial) ?_
      · refine OpsW.splitG (by cbv <;> rfl) (fun a4 => ?_) (fun a4 => ?_) <;> refine OpsW.run tok hO (by cbv <;> rfl) (by trivial) ?_
        · refine OpsW.splitG (by cbv <;> rfl) (fun a5 => ?_) (fun a5 => ?_) <;> refine OpsW.run tok hO (by cbv <;> rfl) (by trivial) ?_
          · have hpre : (bet d.hand 1 20 && bet d.flat 1 20 && decide (0 < d.nw)) = true := by
              subst hO; cases d; simp [std] at a1 a2 a3 a4 a5; simp [bet]; omega
            rw [hpre]
            refine OpsW.callB e1 (by cbv <;> rfl) fun b1 hb1 => ?_
            refine OpsW.run tok hO (by cbv <;> rfl) (by trivial) ?_
            refine OpsW.splitG (by cbv <;> rfl) (fun h2 => ?_) (fun h2 => ?_) <;> refine OpsW.run tok hO (by cbv <;> rfl) (by trivial) ?_
            · refine OpsW.callB e2 (by cbv <;> rfl) fun b2 hb2 => ?_
              refine OpsW.run tok hO (by cbv <;> rfl) (by trivial) ?_
              refine OpsW.splitG (by cbv <;> rfl) (fun h3 => ?_) (fun h3 => ?_) <;> refine OpsW.run tok hO (by cbv <;> rfl) (by trivial) ?_
              · refine OpsW.callB e3 (by cbv <;> rfl) fun b3 hb3 => ?_
                refine OpsW.run tok hO (by cbv <;> rfl) (by trivial) ?_
                refine SW.ret ⟨_, _, rfl, rfl, Eqv.sb ?_⟩
                rw [← hb1, ← hb2, ← hb3, h2, h3]; rfl
              · refine SW.ret ⟨_, _, rfl, rfl, Eqv.bool ?_⟩
                rw [← hb1, ← hb2, h3]; simp
            · refine SW.ret ⟨_, _, rfl, rfl, Eqv.bool ?_⟩
              rw [← hb1, h2]; simp
          all_goals (refine SW.ret ⟨_, _, rfl, rfl, Eqv.bool ?_⟩; subst hO; cases d; simp [std] at a1 a2 a3 a4 a5; simp [bet]; intros; omega)
        all_goals (refine SW.ret ⟨_, _, rfl, rfl, Eqv.bool ?_⟩; subst hO; cases d; simp [std] at a1 a2 a3 a4; simp [bet]; intros; omega)
      all_goals (refine SW.ret ⟨_, _, rfl, rfl, Eqv.bool ?_⟩; subst hO; cases d; simp [std] at a1 a2 a3; simp [bet]; intros; omega)
    all_goals (refine SW.ret ⟨_, _, rfl, rfl, Eqv.bool ?_⟩; subst hO; cases d; simp [std] at a1 a2; simp [bet]; intros; omega)
  all_goals (refine SW.ret ⟨_, _, rfl, rfl, Eqv.bool ?_⟩; subst hO; cases d; simp [std] at a1; simp [bet]; intros; omega)
end Go.Fz
namespace Go.Fz
open Go.Proofs
set_option maxRecDepth 100000
theorem WeakR.upD {n0 r m : Nat} {f1 : Fm} {st1 : St} {l : List (Nat × AV)} {len : Nat} {dm : List Nat} {hl : Hp} {n2 : Nat} (e1 : len = f1.ts.len) (e2 : dm = f1.dm) (e3 : ∀ id ∈ dm, id < n0) (hr : n0 ≤ r) (hm : ∀ p ∈ hl, p.1 ≠ m) (lo : n0 ≤ n2)
    (get : AllP (fun p => RenV (ren1 r m) n2 p.2 (f1.ts.get p.1)) l) (obj : AllP (fun p => p.1 < n2 ∧ ∃ o1, st1.h.get (ren1 r m p.1) = some o1 ∧ RenO (ren1 r m) n2 p.2 o1 ∧ (p.1 = r ∨ o1.fam = none)) hl) :
    WeakR n0 (ren1 r m) f1 st1 ⟨⟨len, getT l⟩, dm⟩ ⟨hl, n2⟩ := by
  refine WeakR.of (m := r) e1 e2 e3 (fun j hj => ren1_ne (by omega)) lo get.ok obj.ok fun p hp q hq h => ?_
  have h1 := hm p hp
  have h2 := hm q hq
  by_cases hpr : p.1 = r
  · by_cases hqr : q.1 = r
    · rw [hpr, hqr]
    · rw [hpr, ren1_eq, ren1_ne hqr] at h; exact absurd h.symm h2
  · by_cases hqr : q.1 = r
    · rw [hqr, ren1_eq, ren1_ne hpr] at h; exact absurd h h1
    · rw [ren1_ne hpr, ren1_ne hqr] at h; exact h
theorem RenV.inc {O : Ar} (hO : O = std) {ρ : Nat → Nat} {n i : Nat} (h : i < 4611686018427387904) : RenV ρ n (iV ((i + 1 : Nat) : Int)) (.lit (.int .i64 (O.bin .add .i64 (Int.ofNat i) 1))) := by
  rw [inc_ok hO h]; exact RenV.closed Below.lit
theorem frz_slE {h : Hp} {D : Nat → Bool} {id sz n : Nat} {fm : Option Nat} {G : List AV} (hd : D id = true) (hg : h.get id = some (.cells fm false G)) (hl : n * sz ≤ G.length) :
    frz h D 3 (.sl id 0 n sz false) = .isl n sz false (fun i k => frz h D 2 (G.getD (0 + i * sz + k) .any)) := by
  show (if D id = true then (match h.get id with | some (.cells _ false cs) => if 0 + n * sz ≤ cs.length then AV.isl n sz false (fun i k => frz h D 2 (cs.getD (0 + i * sz + k) .any)) else .any | _ => .any) else _) = _
  rw [if_pos hd, hg]
  exact if_pos (by omega)
theorem frz_flat {h : Hp} {D : Nat → Bool} {sz n i k : Nat} {g : Nat → Nat → AV} (hi : i < n) (hk : k < sz) (hz : frz h D 2 (g i k) = g i k) : frz h D 2 ((flatG sz g n).getD (0 + i * sz + k) .any) = g i k := by
  rw [List.getD_eq_getElem?_getD, show 0 + i * sz + k = i * sz + k by omega, flatG_get sz g n i k hi hk]; exact hz
def unkC (d : DayD) (i k : Nat) : AV := if i < d.nw then womC d i k else lotC d (i - d.nw) (k + 1)
theorem womC_one (d : DayD) (i k : Nat) : (womC d i k).one = true := by unfold womC; split <;> rfl
theorem womC_below (d : DayD) (i k : Nat) : Below 0 (womC d i k) := by unfold womC; split <;> exact Below.lit
theorem lotC_below (d : DayD) (i k : Nat) : Below 0 (lotC d i k) := by unfold lotC; split <;> exact Below.lit
theorem unkC_below (d : DayD) (i k : Nat) : Below 0 (unkC d i k) := by unfold unkC; split; exact womC_below d i k; exact lotC_below d _ _
theorem flatG_below {sz : Nat} {g : Nat → Nat → AV} (h : ∀ i k, Below 0 (g i k)) : ∀ n, ∀ a ∈ flatG sz g n, Below 0 a
  | 0, a, ha => by cases ha
  | n + 1, a, ha => by
    simp only [flatG, List.mem_append] at ha
    rcases ha with ha | ha
    · exact flatG_below h n a ha
    · obtain ⟨i, hi⟩ := List.mem_iff_getElem?.1 ha
      rw [cellsFrom_get] at hi
      split at hi
      · cases hi; exact h n _
      · cases hi
theorem flatG_congr {sz : Nat} {g g' : Nat → Nat → AV} : ∀ {n : Nat}, (∀ i k, i < n → g i k = g' i k) → flatG sz g n = flatG sz g' n
  | 0, _ => rfl
  | n + 1, h => by
    simp only [flatG]
    rw [flatG_congr (n := n) fun i k hi => h i k (by omega), show g n = g' n from funext fun k => h n k (by omega)]
theorem flatG_one {sz : Nat} {g : Nat → Nat → AV} (h : ∀ i k, (g i k).one = true) : ∀ n, (flatG sz g n).all AV.one = true
  | 0 => rfl
  | n + 1 => by
    simp only [flatG, List.all_append, flatG_one h n, Bool.true_and]
    rw [List.all_eq_true]
    intro a ha
    obtain ⟨i, hi⟩ := List.mem_iff_getElem?.1 ha
    rw [cellsFrom_get] at hi
    split at hi
    · cases hi; exact h n _
    · cases hi
theorem woms_app (d : DayD) (h0 : 0 < d.nw) (hn : d.nw < 1000) (st : St) :
    appendA T st 29 29 (.lit (.slice none 0 0)) (womsV d) = some (.sl st.n 0 d.nw 2 false, st.push (.cells none false (flatG 2 (womC d) d.nw))) := by
  obtain ⟨b1, e1⟩ : ∃ b, T 29 = some { desc := .slice 31, size := 1, bytes := 24, zero := [.slice none 0 0], flat := b } := ⟨_, rfl⟩
  obtain ⟨ti, e2, e3, e4, e5⟩ : ∃ ti, T 31 = some ti ∧ ti.size = 2 ∧ ti.bytes = 16 ∧ ti.zero.length = 2 := ⟨_, rfl, rfl, rfl, rfl⟩
  have hall := flatG_one (sz := 2) (womC_one d) d.nw
  unfold appendA
  simp only [e1, e2, slCells, womsV, slLen, e3, e4, e5]
  rw [if_pos ⟨trivial, by decide⟩]
  simp only [Nat.zero_add]
  rw [if_neg (by rw [hall]; simp; omega)]
  exact if_neg (by omega)
set_option maxHeartbeats 4000000 in
theorem unknown_ok (d : DayD) (h0 : 0 < d.nw) (hw : d.nw ≤ 4) (hl : d.nl ≤ 4) : Pure Try.prog 120 [dayV d] (.isl (d.nw + d.nl) 2 false (unkC d)) := by
  obtain ⟨O, hO⟩ : ∃ O : Ar, O = std := ⟨_, rfl⟩
  have hnat : ∀ i : Nat, O.nat (Int.ofNat i) = i := fun i => by subst hO; rfl
  refine pure_of_body tok 3 Try.func120 en120 rfl ⟨dayV_below d, trivial⟩ (Below.isl fun i k _ _ => unkC_below d i k) ?_
  refine SW.seqRun tok hO (by cbv <;> rfl) (by trivial) ?_
  refine SW.seqRun tok hO (by cbv <;> rfl) (by trivial) ?_
  refine SW.seq (SW.runN tok hO 3 (by cbv <;> rfl) (by trivial) ?_)
  obtain ⟨G0, hG0⟩ : ∃ G, G = flatG 2 (womC d) d.nw := ⟨_, rfl⟩
  refine OpsW.appA (st' := ⟨[(1, .cells none false G0), (0, .cells none false (dayC d))], 2⟩) tok (by cbv <;> rfl) (by rw [hG0]; exact woms_app d h0 (by omega) _) ?_
  refine OpsW.run tok hO (by cbv <;> rfl) (by trivial) ?_
  have hlot : ∀ i, i < d.nl → ∀ a b, a = d.llo i → b = d.lhi i → flatG 2 (unkC d) (d.nw + i) ++ [iV a, iV b] = flatG 2 (unkC d) (d.nw + (i + 1)) := fun i _ a b ha hb => by
    show _ = flatG 2 (unkC d) (d.nw + i) ++ cellsFrom (unkC d (d.nw + i)) 0 2
    have e : ∀ k, unkC d (d.nw + i) k = lotC d i (k + 1) := fun k => by
      unfold unkC; rw [if_neg (by omega), show d.nw + i - d.nw = i by omega]
    have : cellsFrom (unkC d (d.nw + i)) 0 2 = [unkC d (d.nw + i) 0, unkC d (d.nw + i) 1] := rfl
    rw [this, e, e, ha, hb]; rfl
  refine SW.seq (SW.mono (Q := fun e fm st => e = .normal ∧ ∃ g A, fm = ⟨⟨24, g⟩, []⟩ ∧ g 3 = .isl (d.nw + d.nl) 2 false A ∧ Eqv (.isl (d.nw + d.nl) 2 false A) (.isl (d.nw + d.nl) 2 false (unkC d)) ∧ st = ⟨[(0, .cells none false (dayC d))], 3⟩) ?_ ?_)
  · refine SW.seqRun tok hO (by cbv <;> rfl) (by trivial) ?_
    refine (SW.block (SW.loopR (fun i : Nat => ⟨⟨24, getT [(1, .ptr 0 0), (3, .sl 2 0 (d.nw + i) 2 false), (11, lotsV d), (12, iV d.nl), (13, iV i)]⟩, []⟩) (fun i => ⟨[(2, .cells none false (flatG 2 (unkC d) (d.nw + i))), (0, .cells none false (dayC d))], 3⟩) (fun i => d.nl - i) (fun i => i ≤ d.nl) 0 (Nat.zero_le _) (ren1 2 1) ?_ fun i hi => ?_))
    · refine WeakR.upD rfl rfl (by simp) (by show 2 ≤ 2; omega) (by simp) (by show 2 ≤ 3; omega) ⟨RenV.ptr (by omega), RenV.sl (by omega), RenV.closed (lotsV_below d), RenV.closed Below.lit, RenV.closed Below.lit, trivial⟩
        ⟨⟨by omega, _, rfl, .cells (RenVs.of_eq (hG0.trans (flatG_congr fun i k hi => by unfold unkC; rw [if_pos (by omega)])) (flatG_below (unkC_below d) _)), .inl rfl⟩, ⟨by omega, _, rfl, .cells (RenVs.closed (dayC_below d)), .inr rfl⟩, trivial⟩
    obtain ⟨G, hG⟩ : ∃ G, G = flatG 2 (unkC d) (d.nw + i) := ⟨_, rfl⟩
    rw [← hG]
    obtain ⟨N, hN⟩ : ∃ N, N = d.nw + i := ⟨_, rfl⟩
    rw [← hN] at hG ⊢
    refine SW.seqRun tok hO (by cbv <;> rfl) (by trivial) ?_
    refine SW.seq (SW.condS (by cbv <;> rfl) (fun h => SW.skip ?_) (fun h => ?_))
    · have hlt : i < d.nl := by subst hO; simpa [std] using h
      have hi0 : (0 : Int) ≤ Int.ofNat i := Int.natCast_nonneg i
      refine SW.seq (SW.block ?_)
      refine SW.seqRun tok hO (by cbv <;> rfl) ?_ ?_
      · exact ⟨hi0, Int.ofNat_lt.2 hlt⟩
      refine SW.runN tok hO 4 (by cbv <;> rfl) (by trivial) ?_
      refine OpsW.appOne (g := unkC d) tok (by cbv <;> rfl) (by rfl) (by rfl) hG (by kernel_rfl) (by rfl) (by rfl) (by omega) fun G' hG' => ?_
      refine OpsW.run tok hO (by cbv <;> rfl) (by trivial) ?_
      refine SW.run tok hO (by cbv <;> rfl) (by trivial) ?_
      refine ⟨i + 1, by omega, by omega, ren1 2 5, ?_⟩
      refine WeakR.upD rfl rfl (by simp) (by show 2 ≤ 2; omega) (by simp) (by show 2 ≤ 3; omega) ⟨RenV.ptr (by omega), by rw [show d.nw + (i + 1) = N + 1 by omega]; exact RenV.sl (by omega), RenV.closed (lotsV_below d), RenV.closed Below.lit, RenV.inc hO (by omega), trivial⟩
        ⟨⟨by omega, _, rfl, .cells (RenVs.of_eq ((by rw [hN] at hG'; exact hG' : _ = _).trans (hlot i hlt _ _ (by subst hO; rfl) (by subst hO; rfl))) (flatG_below (unkC_below d) _)), .inl rfl⟩, ⟨by omega, _, rfl, .cells (RenVs.closed (dayC_below d)), .inr rfl⟩, trivial⟩
    · have hz : d.nl = i := by
        have : d.nl ≤ i := by subst hO; simpa [std] using h
        omega
      refine SW.freezeZ (fun j => Nat.beq j 2) 3 (by rfl) (SW.exit ⟨rfl, _, (fun i' k => frz [(2, .cells none false G), (0, .cells none false (dayC d))] (fun j => Nat.beq j 2) 2 (G.getD (0 + i' * 2 + k) .any)), rfl, ?_, ?_, rfl⟩)
      · rw [show d.nw + d.nl = N by omega]
        exact frz_slE (fm := none) rfl rfl (by rw [hG, flatG_length]; omega)
      · refine Eqv.isl rfl fun i' k hi' hk => ?_
        rw [hG]
        exact Eqv.of (frz_flat (by omega) hk (by unfold unkC womC lotC; repeat' split
                                                 all_goals rfl))
  · rintro e fm st ⟨rfl, g, A, rfl, hg, hA, rfl⟩
    obtain ⟨M, hM⟩ : ∃ M, M = d.nw + d.nl := ⟨_, rfl⟩
    rw [← hM] at hg hA ⊢
    rw [← updT_self hg]
    refine SW.seqRun tok hO (by cbv <;> rfl) (by trivial) ?_
    exact SW.ret ⟨_, _, rfl, rfl, hA⟩
def rngC (lo hi : Nat → Int) (i k : Nat) : AV := match k with
  | 0 => iV (lo i)
  | _ => iV (hi i)
def DayD.ulo (d : DayD) (i : Nat) : Int := if i < d.nw then d.wlo i else d.llo (i - d.nw)
def DayD.uhi (d : DayD) (i : Nat) : Int := if i < d.nw then d.whi i else d.lhi (i - d.nw)
theorem unknown_ok' (d : DayD) (h0 : 0 < d.nw) (hw : d.nw ≤ 4) (hl : d.nl ≤ 4) : Pure Try.prog 120 [dayV d] (.isl (d.nw + d.nl) 2 false (rngC d.ulo d.uhi)) :=
  (unknown_ok d h0 hw hl).res (Eqv.isl rfl fun i k hi hk => Eqv.of (by
    match k, hk with
    | 0, _ => by_cases hc : i < d.nw <;> simp [unkC, rngC, DayD.ulo, DayD.uhi, womC, lotC, hc]
    | 1, _ => by_cases hc : i < d.nw <;> simp [unkC, rngC, DayD.ulo, DayD.uhi, womC, lotC, hc]))
def prN (lo hi : Nat → Int) : Nat → Int
  | 0 => 1
  | i + 1 => mul64 (prN lo hi i) (size64 (lo i) (hi i))
def manyB (lo hi : Nat → Int) (M : Nat) : Bool := !(allN M fun i => decide (prN lo hi (i + 1) ≤ 2000))
theorem tooMany_ok (d : DayD) (h0 : 0 < d.nw) (hw : d.nw ≤ 4) (hl : d.nl ≤ 4) : Pure Try.prog 87 [dayV d] (.sb (manyB d.ulo d.uhi (d.nw + d.nl))) := by
  obtain ⟨O, hO⟩ : ∃ O : Ar, O = std := ⟨_, rfl⟩
  have hnat : ∀ i : Nat, O.nat (Int.ofNat i) = i := fun i => by subst hO; rfl
  have hu := unknown_ok' d h0 hw hl
  generalize d.ulo = U at hu
  generalize d.uhi = V at hu
  have hM8 : d.nw + d.nl ≤ 8 := by omega
  generalize d.nw + d.nl = M at hu hM8
  refine pure_of_body tok 3 Try.func87 en87 rfl ⟨dayV_below d, trivial⟩ Below.sb ?_
  refine SW.seqRun tok hO (by cbv <;> rfl) (by trivial) ?_
  refine SW.seqRun tok hO (by cbv <;> rfl) (by trivial) ?_
  refine SW.seq ?_
  refine SW.seqRun tok hO (by cbv <;> rfl) (by trivial) ?_
  refine OpsW.callP hu (by cbv <;> rfl) ?_
  refine OpsW.run tok hO (by cbv <;> rfl) (by trivial) ?_
  refine (SW.block (SW.loopF (fun i : Nat => ⟨⟨20, getT [(3, iV (prN U V i)), (7, .isl M 2 false (rngC U V)), (8, iV M), (9, iV i)]⟩, []⟩) (fun _ => ⟨[], 1⟩) (fun i => M - i) (fun i => i ≤ M ∧ ∀ j, j < i → prN U V (j + 1) ≤ 2000) 0
    (fun _ => rfl) ⟨Nat.zero_le _, fun j hj => absurd hj (Nat.not_lt_zero j)⟩ (Weak.by rfl rfl (by simp) (Nat.le_refl _) (Nat.le_refl _) ⟨⟨rfl, .inl rfl⟩, ⟨rfl, .inl rfl⟩, ⟨rfl, .inl rfl⟩, ⟨rfl, .inl rfl⟩, trivial⟩ trivial) fun i ⟨hi, hall⟩ => ?_))
  generalize hacc : prN U V i = acc
  refine SW.seqRun tok hO (by cbv <;> rfl) (by trivial) ?_
  refine SW.seq (SW.condS (by cbv <;> rfl) (fun h => SW.skip ?_) (fun h => SW.exit ?_))
  · have hlt : i < M := by subst hO; simpa [std] using h
    have hi0 : (0 : Int) ≤ Int.ofNat i := Int.natCast_nonneg i
    refine SW.seq (SW.block ?_)
    refine SW.seqRun tok hO (by cbv <;> rfl) ?_ ?_
    · exact ⟨hi0, Int.ofNat_lt.2 hlt⟩
    refine SW.seqRun tok hO (by cbv <;> rfl) (by trivial) ?_
    refine OpsW.callI (size_ok (U (O.nat (Int.ofNat i))) (V (O.nat (Int.ofNat i)))) (by cbv <;> rfl) fun v hv => ?_
    refine OpsW.run tok hO (by cbv <;> rfl) (by trivial) ?_
    refine SW.seqRun tok hO (by cbv <;> rfl) (by trivial) ?_
    have hnew : O.bin .mul .i64 acc v = prN U V (i + 1) := by
      subst hO; subst hv; subst hacc; rfl
    refine SW.condS (by cbv <;> rfl) (fun h2 => ?_) (fun h2 => SW.skip ?_)
    · refine SW.seqRun tok hO (by cbv <;> rfl) (by trivial) ?_
      refine SW.ret ⟨_, _, rfl, rfl, Eqv.bool ?_⟩
      have h3 : 2000 < prN U V (i + 1) := by rw [← hnew]; subst hO; simpa [std] using h2
      unfold manyB allN
      symm
      rw [Bool.not_eq_true', decide_eq_false_iff_not]
      intro hq
      have := hq i hlt
      simp at this; omega
    · have h3 : prN U V (i + 1) ≤ 2000 := by rw [← hnew]; subst hO; simpa [std] using h2
      refine SW.run tok hO (by cbv <;> rfl) (by trivial) ?_
      refine ⟨i + 1, by omega, ⟨by omega, fun j hj => ?_⟩, Weak.by rfl rfl (by simp) (Nat.le_refl _) (by show 1 ≤ 2; omega) ⟨⟨by show AV.lit (.int .i64 (O.bin .mul .i64 acc v)) = _; rw [hnew]; rfl, .inr Below.lit⟩, ⟨rfl, .inr (Below.up (m := 0) (Below.isl fun i k _ _ => by unfold rngC; split <;> exact Below.lit))⟩, ⟨rfl, .inr Below.lit⟩, ⟨inc_ok hO (by omega), .inr Below.lit⟩, trivial⟩ trivial⟩
      rcases Nat.lt_succ_iff_lt_or_eq.1 hj with hj | rfl
      · exact hall j hj
      · exact h3
  · refine SW.seqRun tok hO (by cbv <;> rfl) (by trivial) ?_
    have hge : M ≤ i := by subst hO; simpa [std] using h
    refine SW.ret ⟨_, _, rfl, rfl, Eqv.bool ?_⟩
    unfold manyB allN
    symm
    rw [Bool.not_eq_false', decide_eq_true_eq]
    exact fun j hj => decide_eq_true (hall j (by omega))
def DayD.check (d : DayD) : Int := if d.long then 3 else if d.validB then (if manyB d.ulo d.uhi (d.nw + d.nl) then 3 else 0) else 1
theorem checkDay_ok (d : DayD) (hs : d.small) : Pure Try.prog 40 [dayV d] (iV d.check) := by
  obtain ⟨O, hO⟩ : ∃ O : Ar, O = std := ⟨_, rfl⟩
  have e1 := tooLong_ok d
  have e2 := valid_ok d hs
  have hlong : d.long = false → d.nw ≤ 4 ∧ d.nl ≤ 4 := fun h => by
    simp only [DayD.long, Bool.or_eq_false_iff, decide_eq_false_iff_not, Nat.not_lt] at h; omega
  have hval : d.validB = true → 0 < d.nw := fun h => by
    simp only [DayD.validB, Bool.and_eq_true, decide_eq_true_eq] at h; exact h.1.1.1.2
  have hc : d.check = if d.long then 3 else if d.validB then (if manyB d.ulo d.uhi (d.nw + d.nl) then 3 else 0) else 1 := rfl
  have e3 := tooMany_ok d
  generalize manyB d.ulo d.uhi (d.nw + d.nl) = MM at hc e3
  generalize d.long = L at e1 hlong hc
  generalize d.validB = W at e2 hval hc
  refine pure_of_body tok 3 Try.func40 en40 rfl ⟨dayV_below d, trivial⟩ Below.lit ?_
  refine SW.seqRun tok hO (by cbv <;> rfl) (by trivial) ?_
  refine SW.seq (SW.block ?_)
  refine SW.seqRun tok hO (by cbv <;> rfl) (by trivial) ?_
  refine OpsW.callP e1 (by cbv <;> rfl) ?_
  refine OpsW.run tok hO (by cbv <;> rfl) (by trivial) ?_
  refine SW.condS (by cbv <;> rfl) (fun h1 => ?_) (fun h1 => ?_)
  · refine SW.seqRun tok hO (by cbv <;> rfl) (by trivial) ?_
    refine SW.ret ⟨_, _, rfl, rfl, Eqv.int ?_⟩
    rw [hc, h1]; rfl
  refine SW.seqRun tok hO (by cbv <;> rfl) (by trivial) ?_
  refine OpsW.callP e2 (by cbv <;> rfl) ?_
  have hnot : O.not W = !W := by subst hO; rfl
  refine OpsW.run tok hO (by cbv <;> rfl) (by trivial) ?_
  refine SW.condS (by cbv <;> rfl) (fun h2 => ?_) (fun h2 => ?_)
  · have hw : W = false := by have := hnot.symm.trans h2; simpa using this
    refine SW.seqRun tok hO (by cbv <;> rfl) (by trivial) ?_
    refine SW.ret ⟨_, _, rfl, rfl, Eqv.int ?_⟩
    rw [hc, h1, hw]; rfl
  have hw : W = true := by have := hnot.symm.trans h2; simpa using this
  have e3 := e3 (hval hw) (hlong h1).1 (hlong h1).2
  refine SW.seqRun tok hO (by cbv <;> rfl) (by trivial) ?_
  refine OpsW.callP e3 (by cbv <;> rfl) ?_
  refine OpsW.run tok hO (by cbv <;> rfl) (by trivial) ?_
  refine SW.condS (by cbv <;> rfl) (fun h3 => ?_) (fun h3 => SW.skip ?_)
  · refine SW.seqRun tok hO (by cbv <;> rfl) (by trivial) ?_
    refine SW.ret ⟨_, _, rfl, rfl, Eqv.int ?_⟩
    rw [hc, h1, hw, h3]; rfl
  · refine SW.seqRun tok hO (by cbv <;> rfl) (by trivial) ?_
    refine SW.ret ⟨_, _, rfl, rfl, Eqv.int ?_⟩
    rw [hc, h1, hw, h3]; rfl
end Go.Fz
namespace Go.Fz
open Go.Proofs
set_option maxRecDepth 100000
def dayE (d : DayD) (j : Nat) : AV := match j with
  | 0 => iV d.hand
  | 1 => iV d.flat
  | 2 => womsV d
  | 3 => lotsV d
  | _ => cntsV d
theorem dayE_below (d : DayD) : Below 0 (.ip 5 0 (dayE d)) := Below.ip fun j _ => by
  unfold dayE; split
  · exact Below.lit
  · exact Below.lit
  · exact womsV_below d
  · exact lotsV_below d
  · exact cntsV_below d
theorem fits1_ok (d : DayD) (fl : Nat → Int) (i : Nat) (hi : i < d.nw) : Pure Try.prog 110 [iV i, iV (fl i), .ip 5 0 (dayE d)] (.sb (inB (fl i) (d.wlo i) (d.whi i))) := by
  obtain ⟨O, hO⟩ : ∃ O : Ar, O = std := ⟨_, rfl⟩
  have h0 : (0 : Int) ≤ Int.ofNat i := Int.natCast_nonneg i
  refine pure_of_body tok 3 Try.func110 en110 rfl ⟨Below.lit, Below.lit, dayE_below d, trivial⟩ Below.sb ?_
  refine SW.seqRun tok hO (by cbv <;> rfl) (by trivial) ?_
  refine SW.seqRun tok hO (by cbv <;> rfl) ?_ ?_
  · exact ⟨h0, Int.ofNat_lt.2 hi⟩
  refine OpsW.callB (has_ok (d.wlo (O.nat (Int.ofNat i))) (d.whi (O.nat (Int.ofNat i))) (fl i)) (by cbv <;> rfl) fun b hb => ?_
  refine OpsW.run tok hO (by cbv <;> rfl) (by trivial) ?_
  refine SW.ret ⟨_, _, rfl, rfl, Eqv.sb ?_⟩
  subst hO; exact hb
theorem fits2_ok (d : DayD) (fl : Nat → Int) (i : Nat) (hi : i < d.nl) : Pure Try.prog 112 [iV i, iV (fl i), .ip 5 0 (dayE d)] (.sb (inB (fl i) (d.llo i) (d.lhi i))) := by
  obtain ⟨O, hO⟩ : ∃ O : Ar, O = std := ⟨_, rfl⟩
  have h0 : (0 : Int) ≤ Int.ofNat i := Int.natCast_nonneg i
  refine pure_of_body tok 3 Try.func112 en112 rfl ⟨Below.lit, Below.lit, dayE_below d, trivial⟩ Below.sb ?_
  refine SW.seqRun tok hO (by cbv <;> rfl) (by trivial) ?_
  refine SW.seqRun tok hO (by cbv <;> rfl) ?_ ?_
  · exact ⟨h0, Int.ofNat_lt.2 hi⟩
  refine OpsW.callB (has_ok (d.llo (O.nat (Int.ofNat i))) (d.lhi (O.nat (Int.ofNat i))) (fl i)) (by cbv <;> rfl) fun b hb => ?_
  refine OpsW.run tok hO (by cbv <;> rfl) (by trivial) ?_
  refine SW.ret ⟨_, _, rfl, rfl, Eqv.sb ?_⟩
  subst hO; exact hb
def DayD.fits (d : DayD) (t : TruD) : Bool := decide (t.nf = d.nw) && decide (t.ns = d.nl) && allN t.nf (fun i => inB (t.fe i) (d.wlo i) (d.whi i)) && allN t.ns (fun i => inB (t.st i) (d.llo i) (d.lhi i))
theorem fits_ok (d : DayD) (t : TruD) (hf : t.nf < 1000) (hs : t.ns < 1000) : Pure Try.prog 82 [dayV d, truV t] (.sb (d.fits t)) := by
  obtain ⟨O, hO⟩ : ∃ O : Ar, O = std := ⟨_, rfl⟩
  refine pure_of_body tok 3 Try.func82 en82 rfl ⟨dayV_below d, truV_below t, trivial⟩ Below.sb ?_
  refine SW.seqRun tok hO (by cbv <;> rfl) (by trivial) ?_
  refine SW.seq (SW.runN tok hO 8 (by cbv <;> rfl) (by trivial) ?_)
  refine OpsW.splitG (by cbv <;> rfl) (fun h1 => ?_) (fun h1 => ?_)
  rotate_left
  · refine OpsW.run tok hO (by cbv <;> rfl) (by trivial) ?_
    refine SW.ret ⟨_, _, rfl, rfl, Eqv.bool ?_⟩
    have : ¬ (t.nf : Int) = (d.nw : Int) := by subst hO; simpa [std] using h1
    have : ¬ t.nf = d.nw := by omega
    simp [DayD.fits, this]
  have k1' : (t.nf : Int) = (d.nw : Int) := by subst hO; simpa [std] using h1
  have k1 : t.nf = d.nw := by omega
  refine OpsW.runN tok hO 9 (by cbv <;> rfl) (by trivial) ?_
  refine OpsW.splitG (by cbv <;> rfl) (fun h2 => ?_) (fun h2 => ?_)
  rotate_left
  · refine OpsW.run tok hO (by cbv <;> rfl) (by trivial) ?_
    refine SW.ret ⟨_, _, rfl, rfl, Eqv.bool ?_⟩
    have : ¬ (t.ns : Int) = (d.nl : Int) := by subst hO; simpa [std] using h2
    have : ¬ t.ns = d.nl := by omega
    simp [DayD.fits, this]
  have k2' : (t.ns : Int) = (d.nl : Int) := by subst hO; simpa [std] using h2
  have k2 : t.ns = d.nl := by omega
  refine OpsW.freeze (fun _ => true) 3 (by rfl) ?_
  refine OpsW.runN tok hO 3 (by cbv <;> rfl) (by trivial) ?_
  refine OpsW.callB (Pure.eqv (each64_ok t.nf t.ef t.fe 110 [] [.ip 5 0 (dayE d)] (fun i => inB (t.fe i) (d.wlo i) (d.whi i)) (Below.fn (AllB.ok trivial) (AllB.ok ⟨dayE_below d, trivial⟩)) (by omega) fun i hi => fits1_ok d t.fe i (by omega)) ?_) (by cbv <;> rfl) fun b1 hb1 => ?_
  · refine .cons (Eqv.refl _) (.cons ?_ .nil)
    refine Eqv.fn .nil (.cons (Eqv.ip fun j hj => ?_) .nil)
    match j, hj with
    | 0, _ => exact Eqv.of rfl
    | 1, _ => exact Eqv.of rfl
    | 2, _ => exact Eqv.of rfl
    | 3, _ => exact Eqv.of rfl
    | 4, _ => exact Eqv.of rfl
  refine OpsW.runN tok hO 2 (by cbv <;> rfl) (by trivial) ?_
  refine OpsW.splitG (by cbv <;> rfl) (fun h3 => ?_) (fun h3 => ?_)
  rotate_left
  · refine OpsW.run tok hO (by cbv <;> rfl) (by trivial) ?_
    refine SW.ret ⟨_, _, rfl, rfl, Eqv.bool ?_⟩
    simp only [DayD.fits]; rw [← hb1, h3]; simp
  refine OpsW.runN tok hO 3 (by cbv <;> rfl) (by trivial) ?_
  refine OpsW.callB (Pure.eqv (each64_ok t.ns t.es t.st 112 [] [.ip 5 0 (dayE d)] (fun i => inB (t.st i) (d.llo i) (d.lhi i)) (Below.fn (AllB.ok trivial) (AllB.ok ⟨dayE_below d, trivial⟩)) (by omega) fun i hi => fits2_ok d t.st i (by omega)) ?_) (by cbv <;> rfl) fun b2 hb2 => ?_
  · refine .cons (Eqv.refl _) (.cons ?_ .nil)
    refine Eqv.fn .nil (.cons (Eqv.ip fun j hj => ?_) .nil)
    match j, hj with
    | 0, _ => exact Eqv.of rfl
    | 1, _ => exact Eqv.of rfl
    | 2, _ => exact Eqv.of rfl
    | 3, _ => exact Eqv.of rfl
    | 4, _ => exact Eqv.of rfl
  refine OpsW.run tok hO (by cbv <;> rfl) (by trivial) ?_
  refine SW.ret ⟨_, _, rfl, rfl, Eqv.sb ?_⟩
  simp only [DayD.fits]; rw [← hb1, ← hb2, h3, k1, k2]; simp
def stemN (d : DayD) (st : Nat → Int) (w : Int) : Nat → Int
  | 0 => 0
  | i + 1 => if d.lw i = w then add64 (stemN d st w i) (st i) else stemN d st w i
def pileV (f s : Int) : AV := .agg [iV f, iV s]
theorem pile_ok (d : DayD) (t : TruD) (w : Nat) (hw : w < t.nf) (hs : t.ns ≤ d.nl) (hn : t.ns < 1000) : Pure Try.prog 96 [dayV d, truV t, iV w] (pileV (t.fe w) (stemN d t.st w t.ns)) := by
  obtain ⟨O, hO⟩ : ∃ O : Ar, O = std := ⟨_, rfl⟩
  have hw0 : (0 : Int) ≤ Int.ofNat w := Int.natCast_nonneg w
  refine pure_of_body tok 3 Try.func96 en96 rfl ⟨dayV_below d, truV_below t, Below.lit, trivial⟩ (Below.agg (AllB.ok ⟨Below.lit, Below.lit, trivial⟩)) ?_
  refine SW.seqRun tok hO (by cbv <;> rfl) (by trivial) ?_
  refine SW.seqRun tok hO (by cbv <;> rfl) ?_ ?_
  · exact ⟨hw0, Int.ofNat_lt.2 hw⟩
  have hfe : t.fe (O.nat (Int.ofNat w)) = t.fe w := by subst hO; rfl
  refine SW.seq ?_
  refine SW.seqRun tok hO (by cbv <;> rfl) (by trivial) ?_
  refine (SW.block (SW.loopF (fun i : Nat => ⟨⟨39, getT [(2, iV w), (3, .ptr 0 0), (6, .ptr 2 0), (7, .ptr 3 0), (17, intsV t.ns t.es t.st), (18, iV t.ns), (19, iV i)]⟩, []⟩)
    (fun i => ⟨[(3, .cells none false [iV (t.fe w), iV (stemN d t.st w i)]), (2, .cells none false [iV 0, iV 0]), (0, .cells none false (dayC d))], 4⟩) (fun i => t.ns - i) (fun i => i ≤ t.ns) 0
    (fun _ => rfl) (Nat.zero_le _) (Weak.by rfl rfl (by simp) (Nat.le_refl _) (Nat.le_refl _) ⟨⟨rfl, .inl rfl⟩, ⟨rfl, .inl rfl⟩, ⟨rfl, .inl rfl⟩, ⟨rfl, .inl rfl⟩, ⟨rfl, .inl rfl⟩, ⟨rfl, .inl rfl⟩, ⟨rfl, .inl rfl⟩, trivial⟩ ⟨⟨by subst hO; rfl, by omega, .inl rfl⟩, ⟨rfl, by omega, .inl rfl⟩, ⟨rfl, by omega, .inl rfl⟩, trivial⟩) fun i hi => ?_))
  generalize hacc : stemN d t.st w i = acc
  obtain ⟨F, hF⟩ : ∃ F, F = t.fe w := ⟨_, rfl⟩
  rw [← hF]
  refine SW.seqRun tok hO (by cbv <;> rfl) (by trivial) ?_
  refine SW.seq (SW.condS (by cbv <;> rfl) (fun h => SW.skip ?_) (fun h => SW.exit ?_))
  · have hlt : i < t.ns := by subst hO; simpa [std] using h
    have hi0 : (0 : Int) ≤ Int.ofNat i := Int.natCast_nonneg i
    refine SW.seq (SW.block ?_)
    refine SW.seqRun tok hO (by cbv <;> rfl) ?_ ?_
    · exact ⟨hi0, Int.ofNat_lt.2 hlt⟩
    refine SW.seqRun tok hO (by cbv <;> rfl) ?_ ?_
    · exact ⟨hi0, Int.ofNat_lt.2 (show i < d.nl by omega)⟩
    refine SW.condS (by cbv <;> rfl) (fun h2 => ?_) (fun h2 => SW.skip ?_)
    · refine SW.run tok hO (by cbv <;> rfl) (by trivial) ?_
      refine SW.run tok hO (by cbv <;> rfl) (by trivial) ?_
      have hwl : d.lw i = w := by subst hO; simpa [std] using h2
      have e : stemN d t.st w (i + 1) = add64 acc (t.st i) := by simp only [stemN, hwl, if_true, hacc]
      refine ⟨i + 1, by omega, by omega, Weak.by rfl rfl (by simp) (Nat.le_refl _) (Nat.le_refl _) ⟨⟨rfl, .inl rfl⟩, ⟨rfl, .inl rfl⟩, ⟨rfl, .inl rfl⟩, ⟨rfl, .inl rfl⟩, ⟨rfl, .inl rfl⟩, ⟨rfl, .inl rfl⟩, ⟨inc_ok hO (by omega), .inl rfl⟩, trivial⟩
        ⟨⟨congrArg (fun l => some (AObj.cells none false l)) ?_, by omega, .inl rfl⟩, ⟨rfl, by omega, .inl rfl⟩, ⟨rfl, by omega, .inl rfl⟩, trivial⟩⟩
      rw [e]; subst hO; rfl
    · refine SW.run tok hO (by cbv <;> rfl) (by trivial) ?_
      have hwl : ¬ d.lw i = w := by subst hO; simpa [std] using h2
      have e : stemN d t.st w (i + 1) = acc := by simp only [stemN]; rw [if_neg hwl, hacc]
      refine ⟨i + 1, by omega, by omega, Weak.by rfl rfl (by simp) (Nat.le_refl _) (Nat.le_refl _) ⟨⟨rfl, .inl rfl⟩, ⟨rfl, .inl rfl⟩, ⟨rfl, .inl rfl⟩, ⟨rfl, .inl rfl⟩, ⟨rfl, .inl rfl⟩, ⟨rfl, .inl rfl⟩, ⟨inc_ok hO (by omega), .inl rfl⟩, trivial⟩
        ⟨⟨congrArg (fun l => some (AObj.cells none false l)) ?_, by omega, .inl rfl⟩, ⟨rfl, by omega, .inl rfl⟩, ⟨rfl, by omega, .inl rfl⟩, trivial⟩⟩
      rw [e]; rfl
  · have hz : i = t.ns := by
      have : t.ns ≤ i := by subst hO; simpa [std] using h
      omega
    refine SW.seqRun tok hO (by cbv <;> rfl) (by trivial) ?_
    refine SW.ret ⟨_, _, rfl, rfl, Eqv.agg (.cons (Eqv.int rfl) (.cons (Eqv.int ?_) .nil))⟩
    rw [← hacc, hz]
def quo64 (a b : Int) : Int := wrp .i64 (a.tdiv b)
theorem bunches_ok (f s : Int) (hf : f ≠ 0) : Pure Try.prog 62 [pileV f s] (iV (quo64 s f)) := by
  obtain ⟨O, hO⟩ : ∃ O : Ar, O = std := ⟨_, rfl⟩
  refine pure_of_body tok 3 Try.func62 en62 rfl ⟨Below.agg (AllB.ok ⟨Below.lit, Below.lit, trivial⟩), trivial⟩ Below.lit ?_
  refine SW.seqRun tok hO (by cbv <;> rfl) (by trivial) ?_
  refine SW.seqRun tok hO (by cbv <;> rfl) (by exact hf) ?_
  exact SW.ret ⟨_, _, rfl, rfl, Eqv.int (by subst hO; rfl)⟩
theorem left_ok (f s : Int) (hf : f ≠ 0) : Pure Try.prog 63 [pileV f s] (iV (s.tmod f)) := by
  obtain ⟨O, hO⟩ : ∃ O : Ar, O = std := ⟨_, rfl⟩
  refine pure_of_body tok 3 Try.func63 en63 rfl ⟨Below.agg (AllB.ok ⟨Below.lit, Below.lit, trivial⟩), trivial⟩ Below.lit ?_
  refine SW.seqRun tok hO (by cbv <;> rfl) (by trivial) ?_
  refine SW.seqRun tok hO (by cbv <;> rfl) (by exact hf) ?_
  exact SW.ret ⟨_, _, rfl, rfl, Eqv.int (by subst hO; rfl)⟩
end Go.Fz
