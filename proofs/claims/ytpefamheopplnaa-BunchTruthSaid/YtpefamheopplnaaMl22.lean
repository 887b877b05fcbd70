/- Own work of the verifier of watercress: FzD11, FzH3, FzJ1, FzJ2, FzJ3, FzJ4, FzK1, FzK2, FzK3, FzK4, FzK5, FzO1, FzSe4, FzT2, FzT3, FzO4, FzT4, FzT5, FzT6. -/
import Derived.Test.YtpefamheopplnaaMl21
import Derived.Test.YtpefamheopplnaaMl19
import Derived.Test.YtpefamheopplnaaMl20
import Derived.Test.YtpefamheopplnaaMl18
import Derived.Test.YtpefamheopplnaaMl17
import Derived.Test.YtpefamheopplnaaMl15
set_option linter.unusedVariables false
set_option linter.unusedSimpArgs false
namespace Go.Fz
open Go.Proofs
set_option maxRecDepth 100000
def DayD.okC (d : DayD) (f : Nat → Int) (i : Nat) : Bool := d.rightB (d.tally (truF d f)) i
theorem wrong_no {d : DayD} (hn : d.nc ≤ 5) (f : Nat → Int) : wrongOf d f = noMk ↔ ∀ j, j < d.nc → d.okC f j = true := by
  have hw : wrongOf d f = (wrM (d.okC f) d.nc 0, wrM (d.okC f) d.nc 1, wrM (d.okC f) d.nc 2, wrM (d.okC f) d.nc 3, wrM (d.okC f) d.nc 4) := rfl
  rw [hw]
  generalize d.okC f = r
  have hm : ∀ j, wrM r d.nc j = false ↔ (j < d.nc → r j = true) := fun j => by
    unfold wrM
    cases r j <;> simp
  constructor
  · intro h j hj
    simp only [noMk, Prod.mk.injEq] at h
    obtain ⟨h0, h1, h2, h3, h4⟩ := h
    have hj5 : j < 5 := by omega
    match j, hj5 with
    | 0, _ => exact (hm 0).1 h0 hj
    | 1, _ => exact (hm 1).1 h1 hj
    | 2, _ => exact (hm 2).1 h2 hj
    | 3, _ => exact (hm 3).1 h3 hj
    | 4, _ => exact (hm 4).1 h4 hj
  · intro h
    simp only [noMk, Prod.mk.injEq]
    exact ⟨(hm 0).2 (h 0), (hm 1).2 (h 1), (hm 2).2 (h 2), (hm 3).2 (h 3), (hm 4).2 (h 4)⟩
theorem first_ge {d : DayD} (hn : d.nc ≤ 5) (f : Nat → Int) (n : Nat) (h5 : n ≤ 5) : (n : Int) ≤ firstM (wrongOf d f) ↔ ∀ j, j < n → j < d.nc → d.okC f j = true := by
  have hw : wrongOf d f = (wrM (d.okC f) d.nc 0, wrM (d.okC f) d.nc 1, wrM (d.okC f) d.nc 2, wrM (d.okC f) d.nc 3, wrM (d.okC f) d.nc 4) := rfl
  rw [hw]
  generalize d.okC f = r
  have hm : ∀ j, wrM r d.nc j = false ↔ (j < d.nc → r j = true) := fun j => by
    unfold wrM
    cases r j <;> simp
  have key : ∀ (b0 b1 b2 b3 b4 : Bool) (n : Fin 6), ((n.1 : Int) ≤ firstM (b0, b1, b2, b3, b4) ↔ ((0 < n.1 → b0 = false) ∧ (1 < n.1 → b1 = false) ∧ (2 < n.1 → b2 = false) ∧ (3 < n.1 → b3 = false) ∧ (4 < n.1 → b4 = false))) := by
    intro b0 b1 b2 b3 b4
    cases b0 <;> cases b1 <;> cases b2 <;> cases b3 <;> cases b4 <;> decide
  rw [key _ _ _ _ _ ⟨n, by omega⟩]
  simp only [hm]
  constructor
  · rintro ⟨k0, k1, k2, k3, k4⟩ j hj hc
    have hj5 : j < 5 := by omega
    match j, hj5 with
    | 0, _ => exact k0 hj hc
    | 1, _ => exact k1 hj hc
    | 2, _ => exact k2 hj hc
    | 3, _ => exact k3 hj hc
    | 4, _ => exact k4 hj hc
  · exact fun h => ⟨fun a => h 0 a, fun a => h 1 a, fun a => h 2 a, fun a => h 3 a, fun a => h 4 a⟩
end Go.Fz
namespace Go.Fz
open Go.Proofs
set_option maxRecDepth 100000
def shL (a b : List Nat) : Bool := shortB a.length b.length (lI a) (lI b)
theorem ord_fin : ∀ many : Fin 6, (risL many.1).Pairwise (fun x y => shL y x = false) ∧ (∀ l ∈ risL many.1, shL l l = false) ∧ List.range many.1 ∈ risL many.1 := by
  decide +kernel
theorem ris_before {many : Nat} (hm : many ≤ 5) {pre post : List (List Nat)} {l a : List Nat} (hE : risL many = pre ++ l :: post) (ha : a ∈ risL many) (hs : shL a l = true) : a ∈ pre := by
  obtain ⟨h1, h2, _⟩ := ord_fin ⟨many, by omega⟩
  simp only at h1 h2
  have hl := h2 l (by rw [hE]; simp)
  rw [hE] at h1 ha
  rcases List.mem_append.1 ha with ha | ha
  · exact ha
  · rcases List.mem_cons.1 ha with rfl | ha
    · rw [hl] at hs; cases hs
    · have := (List.pairwise_append.1 h1).2.1
      have := (List.pairwise_cons.1 this).1 a ha
      rw [this] at hs; cases hs
theorem hasN_lI (l : List Nat) (i : Nat) : hasN l.length (lI l) (i : Int) = decide (i ∈ l) := by
  unfold hasN
  refine decide_eq_decide.2 ⟨fun ⟨k, hk, h⟩ => ?_, fun h => ?_⟩
  · unfold lI at h
    have : l.getD k 0 = i := by omega
    rw [← this, List.getD_eq_getElem?_getD, List.getElem?_eq_getElem hk]
    exact List.getElem_mem hk
  · obtain ⟨k, hk, h⟩ := List.getElem_of_mem h
    exact ⟨k, hk, by unfold lI; rw [List.getD_eq_getElem?_getD, List.getElem?_eq_getElem hk, Option.getD_some, h]⟩
theorem mkB_wrong {d : DayD} (f : Nat → Int) {j : Nat} (hj : j < 5) : mkB (wrongOf d f) j = wrM (d.okC f) d.nc j := by
  match j, hj with
  | 0, _ | 1, _ | 2, _ | 3, _ | 4, _ => rfl
theorem within_wrong {d : DayD} (hn : d.nc ≤ 5) (f : Nat → Int) (l : List Nat) : withinL (wrongOf d f) l.length (lI l) = true ↔ ∀ j, j < d.nc → j ∉ l → d.okC f j = true := by
  unfold withinL
  simp only [allN, decide_eq_true_eq, Bool.or_eq_true, Bool.not_eq_true']
  constructor
  · intro h j hj hl
    have h1 := h j (by omega)
    rw [mkB_wrong f (by omega), hasN_lI] at h1
    rcases h1 with h1 | h1
    · unfold wrM at h1
      cases hr : d.okC f j with
      | true => rfl
      | false => rw [hr] at h1; simp [hj] at h1
    · exact absurd (of_decide_eq_true h1) hl
  · intro h j hj
    rw [mkB_wrong f hj, hasN_lI]
    by_cases hl : j ∈ l
    · exact .inr (decide_eq_true hl)
    · refine .inl ?_
      unfold wrM
      by_cases hjn : j < d.nc
      · rw [h j hjn hl]; simp
      · simp [hjn]
theorem leaveQ_iff {d : DayD} (hn : d.nc ≤ 5) (l : List Nat) : leaveQ d.seen.E l = true ↔ ∃ t, d.inR t ∧ ∀ j, j < d.nc → j ∉ l → d.okC (cutF (d.nw + d.nl) t) j = true := by
  unfold leaveQ
  rw [List.any_eq_true]
  constructor
  · rintro ⟨p, hp, h⟩
    obtain ⟨t, h1, h2⟩ := (seen_key d p.1).1 (List.mem_map.2 ⟨p, hp, rfl⟩)
    rw [← h2] at h
    exact ⟨t, h1, (within_wrong hn _ l).1 h⟩
  · rintro ⟨t, h1, h2⟩
    obtain ⟨p, hp, h3⟩ := List.mem_map.1 ((seen_key d _).2 ⟨t, h1, rfl⟩)
    exact ⟨p, hp, by rw [h3]; exact (within_wrong hn _ l).2 h2⟩
theorem left_found {d : DayD} (hc : d.check = 0) (hn : d.nc ≤ 5) : ∃ pre l post, risL d.nc = pre ++ l :: post ∧ (∀ l' ∈ pre, leaveQ d.seen.E l' = false) ∧ leaveQ d.seen.E l = true ∧ leaveV d.seen.E d.nc = lsV l := by
  have hr : List.range d.nc ∈ risL d.nc := (ord_fin ⟨d.nc, by omega⟩).2.2
  have hq : leaveQ d.seen.E (List.range d.nc) = true := by
    have g := unk_in (good_of_check hc)
    refine (leaveQ_iff hn _).2 ⟨d.ulo, fun m hm => ⟨Int.le_refl _, (g m hm).2.1⟩, fun j hj hl => absurd (List.mem_range.2 hj) hl⟩
  obtain ⟨l, hf⟩ : ∃ l, (risL d.nc).find? (leaveQ d.seen.E) = some l := by
    cases h : (risL d.nc).find? (leaveQ d.seen.E) with
    | some l => exact ⟨l, rfl⟩
    | none =>
      have := List.find?_eq_none.1 h _ hr
      rw [hq] at this
      exact absurd rfl this
  obtain ⟨hl, pre, post, hE, hpre⟩ := List.find?_eq_some_iff_append.1 hf
  refine ⟨pre, l, post, hE, fun l' hl' => by simpa using hpre l' hl', hl, ?_⟩
  unfold leaveV
  rw [hf]
end Go.Fz
namespace Go.Fz
open Go.Proofs
set_option maxRecDepth 100000
def cells4 (g : Nat → Int) : List AV := [iV (g 0), iV (g 1), iV (g 2), iV (g 3)]
theorem cells4_below (n : Nat) (g : Nat → Int) : ∀ a ∈ cells4 g, Below n a := AllB.ok ⟨Below.lit, Below.lit, Below.lit, Below.lit, trivial⟩
def fvF (f0 fl : Nat → Int) : Nat → Nat → Int
  | 0, _ => 0
  | i + 1, j => if fl i = (j : Int) then f0 j else fvF f0 fl i j
set_option maxHeartbeats 8000000 in
theorem feelsOf_ok (nw N : Nat) (ea ex : Bool) (eb : Bool) (nl : Nat) (f0 f1 fl : Nat → Int) (h4 : nw ≤ 4) (hN : N < 1000) (hfl : ∀ k, k < N → 0 ≤ fl k ∧ fl k < (nw : Int)) :
    Pure Try.prog 104 [.agg [intsV nw ea f0, intsV nl eb f1], intsV N ex fl] (.agg (cells4 (fvF f0 fl N))) := by
  obtain ⟨O, hO⟩ : ∃ O : Ar, O = std := ⟨_, rfl⟩
  have hnat : ∀ i : Nat, O.nat (Int.ofNat i) = i := fun i => by subst hO; rfl
  refine pure_of_body tok 3 Try.func104 en104 rfl ⟨Below.agg (AllB.ok ⟨intsV_below _ _ _, intsV_below _ _ _, trivial⟩), intsV_below _ _ _, trivial⟩ (Below.agg (cells4_below 0 _)) ?_
  refine SW.seqRun tok hO (by cbv <;> rfl) (by trivial) ?_
  refine SW.seqRun tok hO (by cbv <;> rfl) (by trivial) ?_
  refine SW.seq ?_
  refine SW.seqRun tok hO (by cbv <;> rfl) (by trivial) ?_
  refine (SW.block (SW.loopF (fun i : Nat => ⟨⟨23, getT [(2, .ptr 0 0), (4, .ptr 1 0), (5, .ptr 2 0), (8, intsV N ex fl), (9, iV N), (10, iV i)]⟩, []⟩)
    (fun i => ⟨[(2, .cells none false (cells4 (fvF f0 fl i))), (1, .cells none false (cells4 fun _ => 0)), (0, .cells none false [intsV nw ea f0, intsV nl eb f1])], 3⟩) (fun i => N - i) (fun i => i ≤ N) 0
    (fun _ => rfl) (Nat.zero_le _) (Weak.by rfl rfl (by simp) (Nat.le_refl _) (Nat.le_refl _) ⟨⟨rfl, .inl rfl⟩, ⟨rfl, .inl rfl⟩, ⟨rfl, .inl rfl⟩, ⟨rfl, .inl rfl⟩, ⟨rfl, .inl rfl⟩, ⟨rfl, .inl rfl⟩, trivial⟩ ⟨⟨rfl, by omega, .inl rfl⟩, ⟨rfl, by omega, .inl rfl⟩, ⟨rfl, by omega, .inl rfl⟩, trivial⟩) fun i hi => ?_))
  generalize hM : fvF f0 fl i = M
  refine SW.seqRun tok hO (by cbv <;> rfl) (by trivial) ?_
  refine SW.seq (SW.condS (by cbv <;> rfl) (fun h => SW.skip ?_) (fun h => SW.exit ?_))
  · have hlt : i < N := by subst hO; simpa [std] using h
    have hi0 : (0 : Int) ≤ Int.ofNat i := Int.natCast_nonneg i
    have hlt' : Int.ofNat i < (N : Int) := Int.ofNat_lt.2 hlt
    obtain ⟨k1, k2⟩ := hfl i hlt
    have hv : fl (O.nat (Int.ofNat i)) = fl i := by rw [hnat]
    refine SW.seq (SW.block ?_)
    refine SW.seqRun tok hO (by cbv <;> rfl) ?_ ?_
    · exact ⟨hi0, hlt'⟩
    have c1 : 0 ≤ fl (O.nat (Int.ofNat i)) ∧ fl (O.nat (Int.ofNat i)) < (nw : Int) := by rw [hv]; exact ⟨k1, k2⟩
    have c2 : 0 ≤ fl (O.nat (Int.ofNat i)) ∧ fl (O.nat (Int.ofNat i)) < ((4 : Nat) : Int) := ⟨c1.1, by omega⟩
    have c3 : O.nat (fl (O.nat (Int.ofNat i))) < 4 := by
      rw [hv]
      have : O.nat (fl i) = (fl i).toNat := by subst hO; rfl
      rw [this]; omega
    refine SW.run tok hO (by cbv <;> rfl) ?_ ?_
    · exact ⟨c3, c2, c1⟩
    refine SW.run tok hO (by cbv <;> rfl) (by trivial) ?_
    have hk : ∀ j : Nat, O.ups j (O.nat (fl (O.nat (Int.ofNat i)))) (f0 (O.nat (fl (O.nat (Int.ofNat i))))) (M j) = fvF f0 fl (i + 1) j := fun j => by
      rw [hv, ← hM]
      have e1 : O.nat (fl i) = (fl i).toNat := by subst hO; rfl
      have e2 : ∀ (j i : Nat) (v x : Int), O.ups j i v x = if i = j then v else x := fun _ _ _ _ => by subst hO; rfl
      rw [e1, e2]
      show _ = if fl i = (j : Int) then f0 j else fvF f0 fl i j
      by_cases e : fl i = (j : Int)
      · have e3 : (fl i).toNat = j := by omega
        rw [if_pos e, if_pos e3, e3]
      · have e3 : (fl i).toNat ≠ j := by omega
        rw [if_neg e, if_neg e3]
    refine ⟨i + 1, by omega, by omega, Weak.by rfl rfl (by simp) (Nat.le_refl _) (Nat.le_refl _) ⟨⟨rfl, .inl rfl⟩, ⟨rfl, .inl rfl⟩, ⟨rfl, .inl rfl⟩, ⟨rfl, .inl rfl⟩, ⟨rfl, .inl rfl⟩, ⟨inc_ok hO (by omega), .inl rfl⟩, trivial⟩
      ⟨⟨congrArg (fun l => some (AObj.cells none false l)) ?_, by omega, .inl rfl⟩, ⟨rfl, by omega, .inl rfl⟩, ⟨rfl, by omega, .inl rfl⟩, trivial⟩⟩
    simp only [cells4, ← hk]
    rfl
  · have hge : N ≤ i := by subst hO; simpa [std] using h
    have hiN : i = N := by omega
    have hMN : fvF f0 fl N = M := by rw [← hiN]; exact hM
    rw [hMN]
    refine SW.seqRun tok hO (by cbv <;> rfl) (by trivial) ?_
    refine SW.ret ⟨_, _, rfl, rfl, Eqv.of rfl⟩
end Go.Fz
namespace Go.Fz
open Go.Proofs
set_option maxRecDepth 100000
section
variable {P : Program} {T : Ti} {β : Type}
def mapI (V : β → AV) (E : List ((β × Int) × Nat)) : List (AV × AV × Nat) := E.map fun p => (V p.1.1, iV p.1.2, p.2)
def ZeroI (P : Program) (e : TypeId) : Prop := ∀ w : World, (zeroValue e).run P w = .ok (.int .i64 0) w
theorem mapI_ent {φ : Fi} {V : β → AV} {kt : TypeId} (F : KeyF P kt V) {E : List ((β × Int) × Nat)} {ces : Array MapEntry} (hes : ∀ (i : Nat) (x : AV × AV × Nat), (mapI V E)[i]? = some x → ∃ e, ces[i]? = some e ∧ VR φ x.1 e.key ∧ VR φ x.2.1 e.val ∧ e.born = x.2.2) :
    ∀ (i : Nat) (p : (β × Int) × Nat), E[i]? = some p → ∃ e, ces[i]? = some e ∧ e.key = F.den p.1.1 ∧ e.val = .int .i64 p.1.2 ∧ e.born = p.2 := fun i p hp => by
  obtain ⟨e, h1, h2, h3, h4⟩ := hes i (V p.1.1, iV p.1.2, p.2) (by simp [mapI, hp])
  exact ⟨e, h1, F.val φ p.1.1 _ h2, h3.lit_inv, h4⟩
theorem mapI_all {V : β → AV} {kt : TypeId} (F : KeyF P kt V) {E : List ((β × Int) × Nat)} {ces : Array MapEntry} (hsz : ces.size = E.length) (hent : ∀ (i : Nat) (p : (β × Int) × Nat), E[i]? = some p → ∃ e, ces[i]? = some e ∧ e.key = F.den p.1.1 ∧ e.val = .int .i64 p.1.2 ∧ e.born = p.2) :
    ∀ e ∈ ces.toList, ∃ p, p ∈ E ∧ e.key = F.den p.1.1 := fun e he => by
  obtain ⟨i, hi, he2⟩ := List.getElem_of_mem he
  have hil : i < E.length := by rw [← hsz]; simpa using hi
  obtain ⟨e', h1, h2, _⟩ := hent i E[i] (List.getElem?_eq_getElem hil)
  have : e' = e := by
    rw [← Array.getElem?_toList, List.getElem?_eq_getElem hi, he2] at h1
    exact (Option.some.inj h1).symm
  subst this
  exact ⟨E[i], List.getElem_mem hil, h2⟩
theorem lookI_ok {φ : Fi} {st : St} {w : World} {t kt e : TypeId} {V : β → AV} (K : Maps.Keyed P kt) (F : KeyF P kt V) {b : β} {u : Value} {id clock : Nat} {E : List ((β × Int) × Nat)} (hr : Rel φ st w) (ha : VR φ (.mp id) u)
    (hu : P.underlying t = some (.map kt e)) (hz : ZeroI P e) (hm : st.h.get id = some (.map (mapI V E) clock)) :
    ((∀ p ∈ E, p.1.1 ≠ b) ∧ (Instr.lookup t u (F.den b) true).run P w = .ok (.tuple #[.int .i64 0, .bool false]) w) ∨
    (∃ p ∈ E, p.1.1 = b ∧ (Instr.lookup t u (F.den b) true).run P w = .ok (.tuple #[.int .i64 p.1.2, .bool true]) w) := by
  obtain ⟨rfl, hid⟩ := ha.mp_inv
  obtain ⟨lx, hlx⟩ := F.key b
  obtain ⟨ces, hb, hsz, hes⟩ := hr.obj id _ hm
  have hlen : (mapI V E).length = E.length := by simp [mapI]
  rw [hlen] at hsz
  have hent := mapI_ent F hes
  have hall := mapI_all F hsz hent
  have hfind := K.find w hlx ces.toList fun e he => by
    obtain ⟨p, _, h2⟩ := hall e he
    rw [h2]; exact F.key p.1.1
  rcases hfind with ⟨hrun, hne⟩ | ⟨j, e0, hrun, hj, hje⟩
  · refine .inl ⟨fun p hp hpb => ?_, ?_⟩
    · obtain ⟨i, hi, rfl⟩ := List.getElem_of_mem hp
      obtain ⟨e, h1, h2, _⟩ := hent i E[i] (List.getElem?_eq_getElem hi)
      rw [← Array.getElem?_toList] at h1
      exact hne e (List.mem_of_getElem? h1) (by rw [h2, hpb])
    · simp [Instr.lookup, run_underlying hu, MapKept.run_getObj_map hb, K.check w _ hlx, hrun, hz w, Result.andThen]
  · have hjl : j < E.length := by
      have : j < ces.toList.length := (List.getElem?_eq_some_iff.1 hj).1
      rw [← hsz]; simpa using this
    have hjc : ces[j]? = some e0 := by rw [← Array.getElem?_toList]; exact hj
    obtain ⟨e', k1, k2, k3, k4⟩ := hent j E[j] (List.getElem?_eq_getElem hjl)
    have hee : e' = e0 := by rw [hjc] at k1; exact (Option.some.inj k1).symm
    subst hee
    refine .inr ⟨E[j], List.getElem_mem hjl, F.inj _ _ (by rw [← k2, hje]), ?_⟩
    simp [Instr.lookup, run_underlying hu, MapKept.run_getObj_map hb, K.check w _ hlx, hrun, k3, Result.andThen]
def lookOkAt (ops : Array Oper) (i : Nat) (f : Fm) : Option (TypeId × AV × AV) := match ops[i]? with
  | none => none
  | some o => match wantA ops f.ts o with
    | some true => match o.op with
      | .lookup t m k true => some (t, Operand.av f.ts m, Operand.av f.ts k)
      | _ => none
    | _ => none
theorem nodup_val {E : List ((β × Int) × Nat)} (hn : (E.map (·.1.1)).Nodup) {p q : (β × Int) × Nat} (hp : p ∈ E) (hq : q ∈ E) (h : p.1.1 = q.1.1) : p = q := by
  induction E with
  | nil => cases hp
  | cons x E ih =>
    rw [List.map_cons, List.nodup_cons] at hn
    obtain ⟨h1, h2⟩ := hn
    have hall : ∀ y ∈ E, y.1.1 ≠ x.1.1 := fun y hy e => h1 (List.mem_map.2 ⟨y, hy, e⟩)
    rcases List.mem_cons.1 hp with hpx | hpE
    · rcases List.mem_cons.1 hq with hqx | hqE
      · rw [hpx, hqx]
      · exact absurd (by rw [← h, hpx]) (hall q hqE)
    · rcases List.mem_cons.1 hq with hqx | hqE
      · exact absurd (by rw [h, hqx]) (hall p hpE)
      · exact ih h2 hpE hqE
theorem OpsW.mapLookI (hT : TOk P T) {rd : Option Nat} {ops : Array Oper} {L : Fm → St → Prop} {f : Fm} {st : St} {i : Nat} {l : List Nat} {t kt e : TypeId} {V : β → AV} (K : Maps.Keyed P kt) (F : KeyF P kt V) (b : β) {kv : AV} {id clock : Nat} {E : List ((β × Int) × Nat)} (hn : (E.map (·.1.1)).Nodup)
    (hx : lookOkAt ops i f = some (t, .mp id, kv)) (hkv : Eqv kv (V b)) (hd : mapDE T t = some (kt, e)) (hz : ZeroI P e) (hm : st.h.get id = some (.map (mapI V E) clock))
    (h0 : (∀ p ∈ E, p.1.1 ≠ b) → OpsW P rd ops l L (putAt ops i f (.tup [iV 0, .lit (.bool false)])) st) (h1 : ∀ p ∈ E, p.1.1 = b → OpsW P rd ops l L (putAt ops i f (.tup [iV p.1.2, .lit (.bool true)])) st) : OpsW P rd ops (i :: l) L f st := by
  unfold lookOkAt at hx
  split at hx
  · cases hx
  · rename_i o ho
    split at hx
    · rename_i hw
      split at hx
      · rename_i t' m k hop
        simp only [Option.some.injEq, Prod.mk.injEq] at hx
        obtain ⟨rfl, e2, e3⟩ := hx
        have hput : ∀ v, putAt ops i f v = f.put o.dst v := fun v => by simp [putAt, ho]
        simp only [hput] at h0 h1
        have hρ : ∀ {φ : Fi} {w : World} {a : Act}, ActR φ f a → ∀ x, VR φ (Operand.av f.ts x) (a.eval x) := fun h3 => opR_of h3.ts
        by_cases hin : ∃ p ∈ E, p.1.1 = b
        · obtain ⟨p, hp, hpb⟩ := hin
          refine OpsW.value ho hw (fun c hc => by rw [hop] at hc; cases hc) (fun φ w a h2 h3 => ?_) (h1 p hp hpb)
          have a1 := hρ (w := w) h3 m
          have a2 := hρ (w := w) h3 k
          rw [e2] at a1; rw [e3] at a2
          have a3 := F.val φ b _ (hkv _ _ a2)
          rcases lookI_ok (w := w) K F (b := b) h2 a1 (mapDE_ok hT hd) hz hm with ⟨hno, _⟩ | ⟨q, hq, hqb, hrun⟩
          · exact absurd hpb (hno p hp)
          · obtain rfl := nodup_val hn hp hq (hpb.trans hqb.symm)
            rw [← a3] at hrun
            exact ⟨φ, w, _, .inl (by simp [execOp, hop, hrun, Result.andThen]), .tup (.cons (.lit _) (.cons (.lit _) .nil)), h2, Ext.refl _, Fr.refl _ _ _⟩
        · have hno : ∀ p ∈ E, p.1.1 ≠ b := fun p hp h => hin ⟨p, hp, h⟩
          refine OpsW.value ho hw (fun c hc => by rw [hop] at hc; cases hc) (fun φ w a h2 h3 => ?_) (h0 hno)
          have a1 := hρ (w := w) h3 m
          have a2 := hρ (w := w) h3 k
          rw [e2] at a1; rw [e3] at a2
          have a3 := F.val φ b _ (hkv _ _ a2)
          rcases lookI_ok (w := w) K F (b := b) h2 a1 (mapDE_ok hT hd) hz hm with ⟨_, hrun⟩ | ⟨q, hq, hqb, _⟩
          · rw [← a3] at hrun
            exact ⟨φ, w, _, .inl (by simp [execOp, hop, hrun, Result.andThen]), .tup (.cons (.lit _) (.cons (.lit _) .nil)), h2, Ext.refl _, Fr.refl _ _ _⟩
          · exact absurd hqb (hno q hq)
      · cases hx
    · cases hx
end
end Go.Fz
namespace Go.Fz
open Go.Proofs
set_option maxRecDepth 100000
section
variable {P : Program} {T : Ti} {β : Type} [DecidableEq β]
def putI (E : List ((β × Int) × Nat)) (b : β) (v : Int) (clock : Nat) : List ((β × Int) × Nat) := if b ∈ E.map (·.1.1) then E else E ++ [((b, v), clock)]
def putC (E : List ((β × Int) × Nat)) (b : β) (clock : Nat) : Nat := if b ∈ E.map (·.1.1) then clock else clock + 1
theorem updI_ok {hT : TOk P T} {φ : Fi} {st : St} {w : World} {t kt : TypeId} {V : β → AV} (K : Maps.Keyed P kt) (F : KeyF P kt V) {b : β} {v : Int} {u ku vu : Value} {id clock : Nat} {E : List ((β × Int) × Nat)} (hsame : ∀ p ∈ E, p.1.1 = b → p.1.2 = v) (hr : Rel φ st w) (ha : VR φ (.mp id) u) (hku : VR φ (V b) ku) (hvu : VR φ (iV v) vu)
    (hd : mapD T t = some kt) (hm : st.h.get id = some (.map (mapI V E) clock)) :
    ∃ w', (Instr.mapUpdate t u ku vu).run P w = .ok () w' ∧ Rel φ ⟨st.h.set id (.map (mapI V (putI E b v clock)) (putC E b clock)), st.n⟩ w' ∧ Fr φ st w φ ⟨st.h.set id (.map (mapI V (putI E b v clock)) (putC E b clock)), st.n⟩ w' := by
  obtain ⟨e, hu⟩ := mapD_ok hT hd
  obtain ⟨rfl, hid⟩ := ha.mp_inv
  obtain rfl := hvu.lit_inv
  obtain rfl := F.val φ b ku hku
  obtain ⟨lx, hlx⟩ := F.key b
  obtain ⟨ces, hb, hsz, hes⟩ := hr.obj id _ hm
  have hlen : (mapI V E).length = E.length := by simp [mapI]
  rw [hlen] at hsz
  have hent := mapI_ent F hes
  have hall := mapI_all F hsz hent
  have hfind := K.find w hlx ces.toList fun e he => by
    obtain ⟨p, _, h2⟩ := hall e he
    rw [h2]; exact F.key p.1.1
  have hcheck := K.check w false hlx
  rcases hfind with ⟨hrun, hne⟩ | ⟨j, e0, hrun, hj, hje⟩
  · have hnot : b ∉ E.map (·.1.1) := fun hin => by
      obtain ⟨p, hp, hpb⟩ := List.mem_map.1 hin
      obtain ⟨i, hi, rfl⟩ := List.getElem_of_mem hp
      obtain ⟨e, h1, h2, _⟩ := hent i E[i] (List.getElem?_eq_getElem hi)
      rw [← Array.getElem?_toList] at h1
      exact hne e (List.mem_of_getElem? h1) (by rw [h2, hpb])
    have e1 : putI E b v clock = E ++ [((b, v), clock)] := if_neg hnot
    have e2 : putC E b clock = clock + 1 := if_neg hnot
    rw [e1, e2]
    have := setHeap_ok (o' := .map (mapI V (E ++ [((b, v), clock)])) (clock + 1)) hr hm rfl rfl rfl (.map (ces.push { key := F.den b, val := .int .i64 v, born := clock }) (clock + 1)) (fun w' hw' => ⟨_, hw', by simp [hsz, mapI], fun i x hx => by
      by_cases hi : i < E.length
      · have hx2 : (mapI V E)[i]? = some x := by
          simp only [mapI, List.map_append] at hx ⊢
          rwa [List.getElem?_append_left (by simpa using hi)] at hx
        obtain ⟨e, k1, k2⟩ := hes i x hx2
        exact ⟨e, by rw [Array.getElem?_push_lt (by omega), ← k1, Array.getElem?_eq_getElem (by omega)], k2⟩
      · have hie : i = E.length := by
          have : i < (mapI V (E ++ [((b, v), clock)])).length := (List.getElem?_eq_some_iff.1 hx).1
          simp [mapI] at this; omega
        subst hie
        have hxx : x = (V b, iV v, clock) := by
          simp [mapI] at hx; exact hx.symm
        subst hxx
        exact ⟨{ key := F.den b, val := .int .i64 v, born := clock }, by rw [← hsz]; simp, hku, .lit _, rfl⟩⟩)
    refine ⟨_, ?_, this.1, this.2⟩
    simp [Instr.mapUpdate, run_underlying hu, MapKept.run_getObj_map hb, hcheck, hrun, MapKept.run_setObj_map _ hb, Result.andThen]
  · have hjl : j < E.length := by
      have : j < ces.toList.length := (List.getElem?_eq_some_iff.1 hj).1
      rw [← hsz]; simpa using this
    have hjc : ces[j]? = some e0 := by rw [← Array.getElem?_toList]; exact hj
    obtain ⟨e', k1, k2, k3, k4⟩ := hent j E[j] (List.getElem?_eq_getElem hjl)
    have hee : e' = e0 := by rw [hjc] at k1; exact (Option.some.inj k1).symm
    subst hee
    have hkb : E[j].1.1 = b := F.inj _ _ (by rw [← k2, hje])
    have hval : E[j].1.2 = v := hsame _ (List.getElem_mem hjl) hkb
    rw [hval] at k3
    have hin : b ∈ E.map (·.1.1) := List.mem_map.2 ⟨E[j], List.getElem_mem hjl, hkb⟩
    have e1 : putI E b v clock = E := if_pos hin
    have e2 : putC E b clock = clock := if_pos hin
    rw [e1, e2]
    have := setHeap_ok (o' := .map (mapI V E) clock) hr hm rfl rfl rfl (.map (ces.modify j fun e => { e with key := F.den b, val := .int .i64 v }) clock) (fun w' hw' => ⟨_, hw', by simp [hsz, hlen], fun i x hx => by
      by_cases hi : i = j
      · subst hi
        obtain ⟨e, q1, q2, q3, q4⟩ := hes i x hx
        have : e = e' := by rw [hjc] at q1; exact (Option.some.inj q1).symm
        subst this
        refine ⟨{ e with key := F.den b, val := .int .i64 v }, by simp [Array.getElem?_modify, hjc], ?_, ?_, q4⟩
        · show VR φ x.1 (F.den b)
          rw [← hje]; exact q2
        · show VR φ x.2.1 (.int .i64 v)
          rw [← k3]; exact q3
      · obtain ⟨e, q1, q2⟩ := hes i x hx
        exact ⟨e, by simp [Array.getElem?_modify, Ne.symm hi, q1], q2⟩⟩)
    refine ⟨_, ?_, this.1, this.2⟩
    have hstay := K.stays w hlx
    simp [Instr.mapUpdate, run_underlying hu, MapKept.run_getObj_map hb, hcheck, hrun, hjc, hje, hstay, MapKept.run_setObj_map _ hb, Result.andThen]
theorem OpsW.mapUpdI (hT : TOk P T) {rd : Option Nat} {ops : Array Oper} {L : Fm → St → Prop} {f : Fm} {st : St} {i : Nat} {l : List Nat} {t kt : TypeId} {V : β → AV} (K : Maps.Keyed P kt) (F : KeyF P kt V) {b : β} {v : Int} {id clock : Nat} {E : List ((β × Int) × Nat)} (hsame : ∀ p ∈ E, p.1.1 = b → p.1.2 = v)
    (hx : updAt ops i f = some (t, .mp id, V b, iV v)) (hd : mapD T t = some kt) (hm : st.h.get id = some (.map (mapI V E) clock))
    (h : OpsW P rd ops l L (putAt ops i f undA) ⟨st.h.set id (.map (mapI V (putI E b v clock)) (putC E b clock)), st.n⟩) : OpsW P rd ops (i :: l) L f st := by
  unfold updAt at hx
  split at hx
  · cases hx
  · rename_i o ho
    split at hx
    · rename_i hw
      split at hx
      · rename_i t' m k v' hop
        simp only [Option.some.injEq, Prod.mk.injEq] at hx
        obtain ⟨rfl, e2, e3, e4⟩ := hx
        have hput : ∀ v, putAt ops i f v = f.put o.dst v := fun v => by simp [putAt, ho]
        rw [hput] at h
        refine OpsW.value ho hw (fun c hc => by rw [hop] at hc; cases hc) (fun φ w a h2 h3 => ?_) h
        have hρ := opR_of h3.ts
        have a1 := hρ m
        have a2 := hρ k
        have a3 := hρ v'
        rw [e2] at a1; rw [e3] at a2; rw [e4] at a3
        obtain ⟨w', k2, k3, k4⟩ := updI_ok (hT := hT) K F hsame h2 a1 a2 a3 hd hm
        exact ⟨φ, w', undef, .inr ⟨by simp [execOp, hop, k2, Result.andThen], rfl⟩, .lit _, k3, Ext.refl _, k4⟩
      · cases hx
    · cases hx
end
def inF (p : Int × Int × Int × Int) : Bool := decide (0 ≤ p.1) && decide (p.1 ≤ 1000000) && decide (0 ≤ p.2.1) && decide (p.2.1 ≤ 1000000) && decide (0 ≤ p.2.2.1) && decide (p.2.2.1 ≤ 1000000) && decide (0 ≤ p.2.2.2) && decide (p.2.2.2 ≤ 1000000)
abbrev FK := { p : Int × Int × Int × Int // inF p = true }
def fkV (p : FK) : AV := .agg [iV p.1.1, iV p.1.2.1, iV p.1.2.2.1, iV p.1.2.2.2]
theorem fkV_below (p : FK) : Below 0 (fkV p) := Below.agg (AllB.ok ⟨Below.lit, Below.lit, Below.lit, Below.lit, trivial⟩)
theorem keyed167 : Maps.Keyed Try.prog 167 := Maps.Keyed.of_law (deep_law_laid (m := 3) laid (by omega) (lt_of_ble (by kernel_rfl)) (by kernel_rfl) (by kernel_rfl))
theorem keyOf_four {P : Program} {t e : TypeId} {d : Nat} (hu : P.underlying t = some (.array 4 e)) (hsz : P.types.size = d + 1) (he : P.underlying e = some (.int .i64)) (c1 : P.cellsOf t = 4) (c3 : P.cellsOf e = 1) (k1 : P.keyType t = true) {a b c f : Int}
    (ha : (Lit.int .i64 a).wf = true) (hb : (Lit.int .i64 b).wf = true) (hc : (Lit.int .i64 c).wf = true) (hf : (Lit.int .i64 f).wf = true) : ∃ l, keyOf P t (.agg #[.int .i64 a, .int .i64 b, .int .i64 c, .int .i64 f]) = some l := by
  have f1' : Value.formed P t (.agg #[.int .i64 a, .int .i64 b, .int .i64 c, .int .i64 f]) = true := by simp [Value.formed, hu, c1]
  have hl : ∀ x : Int, (Lit.int .i64 x).wf = true → P.keyLits (d + 1) e [.int .i64 x] = some [.int .i64 x] := fun x hx => by
    unfold Program.keyLits
    rw [he]
    simp [hx]
  have hk : P.keyLits (P.types.size + 1) t [.int .i64 a, .int .i64 b, .int .i64 c, .int .i64 f] = some [.int .i64 a, .int .i64 b, .int .i64 c, .int .i64 f] := by
    rw [hsz]
    unfold Program.keyLits
    rw [hu]
    simp only [List.length_cons, List.length_nil, c1]
    rw [if_pos trivial]
    simp [List.range, List.range.loop, c3, hl a ha, hl b hb, hl c hc, hl f hf]
  refine ⟨.string (keyBytes [.int .i64 a, .int .i64 b, .int .i64 c, .int .i64 f]), ?_⟩
  unfold keyOf
  rw [hu]
  simp only [k1, f1', Bool.and_true, if_true]
  show Option.map _ (P.keyLits _ t [.int .i64 a, .int .i64 b, .int .i64 c, .int .i64 f]) = _
  rw [hk]; rfl
theorem fk_key {a b c f : Int} (ha : (Lit.int .i64 a).wf = true) (hb : (Lit.int .i64 b).wf = true) (hc : (Lit.int .i64 c).wf = true) (hf : (Lit.int .i64 f).wf = true) : ∃ l, keyOf Try.prog 167 (.agg #[.int .i64 a, .int .i64 b, .int .i64 c, .int .i64 f]) = some l :=
  keyOf_four (e := 3) (d := 207) Try.underlying167 (by kernel_rfl) Try.underlying3 (by kernel_rfl) (by kernel_rfl) (by kernel_rfl) ha hb hc hf
def fkKey : KeyF Try.prog 167 fkV where
  den p := .agg #[.int .i64 p.1.1, .int .i64 p.1.2.1, .int .i64 p.1.2.2.1, .int .i64 p.1.2.2.2]
  val φ b u h := by
    obtain ⟨us, rfl, h1⟩ := h.agg_inv
    match us, h1 with
    | [_, _, _, _], .cons h1 (.cons h2 (.cons h3 (.cons h4 .nil))) => rw [h1.lit_inv, h2.lit_inv, h3.lit_inv, h4.lit_inv]
  key b := by
    obtain ⟨b, h⟩ := b
    simp only [inF, Bool.and_eq_true, decide_eq_true_eq] at h
    exact fk_key (wf64 h.1.1.1.1.1.1.1 h.1.1.1.1.1.1.2) (wf64 h.1.1.1.1.1.2 h.1.1.1.1.2) (wf64 h.1.1.1.2 h.1.1.2) (wf64 h.1.2 h.2)
  inj b c h := by
    obtain ⟨⟨b0, b1, b2, b3⟩, _⟩ := b
    obtain ⟨⟨c0, c1, c2, c3⟩, _⟩ := c
    simp at h
    simp [h]
theorem zeroI3 : ZeroI Try.prog 3 := fun w => by
  have h : (Try.prog.info? 3).bind (fun t => t.zero) = some (.int .i64 0) := by kernel_rfl
  obtain ⟨ti, h1, h2⟩ := Option.bind_eq_some_iff.1 h
  simp [zeroValue, typeInfo, Sem.run_bind, program, Sem.run, Result.andThen, h1, h2]
end Go.Fz
namespace Go.Fz
open Go.Proofs
set_option maxRecDepth 100000
section
variable (nw nl : Nat) (A B C D : Nat → Nat → Int) (a b c e : Nat → Int)
def setW (hand flat : Int) (x y z : AV) (L : Nat) : List AV := [iV hand, iV flat, x, y, z, .isl L 8 false (outX nw nl A B C D a b c e), .any]
theorem fvF_in (f0 fl : Nat → Int) (h : ∀ j, 0 ≤ f0 j ∧ f0 j ≤ 1000000) (j : Nat) : ∀ i, 0 ≤ fvF f0 fl i j ∧ fvF f0 fl i j ≤ 1000000
  | 0 => ⟨Int.le_refl _, by show (0 : Int) ≤ _; omega⟩
  | i + 1 => by
    show 0 ≤ (if fl i = (j : Int) then f0 j else fvF f0 fl i j) ∧ (if fl i = (j : Int) then f0 j else fvF f0 fl i j) ≤ 1000000
    split
    · exact h j
    · exact fvF_in f0 fl h j i
def fkOf (g : Nat → Int) (h : ∀ j, 0 ≤ g j ∧ g j ≤ 1000000) : FK := ⟨(g 0, g 1, g 2, g 3), by
  have h0 := h 0
  have h1 := h 1
  have h2 := h 2
  have h3 := h 3
  simp [inF, h0, h1, h2, h3]⟩
theorem fkOf_eq {g g' : Nat → Int} {h h'} : fkOf g h = fkOf g' h' ↔ ∀ m, m < 4 → g m = g' m := by
  unfold fkOf
  constructor
  · intro e m hm
    have e1 := congrArg Subtype.val e
    simp only [Prod.mk.injEq] at e1
    match m, hm with
    | 0, _ => exact e1.1
    | 1, _ => exact e1.2.1
    | 2, _ => exact e1.2.2.1
    | 3, _ => exact e1.2.2.2
  · intro e
    apply Subtype.ext
    simp only [Prod.mk.injEq]
    exact ⟨e 0 (by omega), e 1 (by omega), e 2 (by omega), e 3 (by omega)⟩
theorem putI_nodup {E : List ((FK × Int) × Nat)} {b : FK} {v : Int} {cl : Nat} (h : (E.map (·.1.1)).Nodup) : ((putI E b v cl).map (·.1.1)).Nodup := by
  unfold putI
  split
  · exact h
  · rename_i hn
    rw [List.map_append, List.nodup_append]
    refine ⟨h, by simp, fun x hx y hy => ?_⟩
    simp at hy
    subst hy
    exact fun e => hn (e ▸ hx)
theorem putI_mem {E : List ((FK × Int) × Nat)} {b : FK} {v : Int} {cl : Nat} {p : (FK × Int) × Nat} (h : p ∈ putI E b v cl) : p ∈ E ∨ p = ((b, v), cl) := by
  unfold putI at h
  split at h
  · exact .inl h
  · rcases List.mem_append.1 h with h | h
    · exact .inl h
    · exact .inr (List.mem_singleton.1 h)
theorem putI_key {E : List ((FK × Int) × Nat)} {b : FK} {v : Int} {cl : Nat} {k : FK} (h : k ∈ E.map (·.1.1) ∨ k = b) : k ∈ (putI E b v cl).map (·.1.1) := by
  unfold putI
  split
  · rename_i hn
    rcases h with h | rfl
    · exact h
    · exact hn
  · rw [List.map_append, List.mem_append]
    rcases h with h | rfl
    · exact .inl h
    · exact .inr (by simp)
theorem mapI_closed (E : List ((FK × Int) × Nat)) : ∀ x ∈ mapI fkV E, Below 0 x.1 ∧ Below 0 x.2.1 := fun x hx => by
  obtain ⟨p, _, rfl⟩ := List.mem_map.1 hx
  exact ⟨fkV_below _, Below.lit⟩
set_option maxHeartbeats 16000000 in
theorem settles_ok (hand flat : Int) (wn ln cn : Nat) (wg lg cg : Nat → Nat → AV) (hwg : Below 0 (.isl wn 2 false wg)) (hlg : Below 0 (.isl ln 3 false lg)) (hcg : Below 0 (.isl cn 4 false cg)) (L N : Nat) (fl : Nat → Int) (hL : L < 100000) (h4 : nw ≤ 4) (hN : N < 1000) (hfl : ∀ k, k < N → 0 ≤ fl k ∧ fl k < (nw : Int))
    (hA : ∀ i j, 0 ≤ A i j ∧ A i j ≤ 1000000) (R : Bool) (hR1 : (∀ i j, i < L → j < i → (∀ m, m < 4 → fvF (A i) fl N m = fvF (A j) fl N m) → c j = c i) → R = true) (hR0 : ∀ i j, i < L → j < i → (∀ m, m < 4 → fvF (A i) fl N m = fvF (A j) fl N m) → c j ≠ c i → R = false) :
    Pure Try.prog 75 [.agg (setW nw nl A B C D a b c e hand flat (.isl wn 2 false wg) (.isl ln 3 false lg) (.isl cn 4 false cg) L), intsV N false fl] (.lit (.bool R)) := by
  obtain ⟨O, hO⟩ : ∃ O : Ar, O = std := ⟨_, rfl⟩
  have hnat : ∀ i : Nat, O.nat (Int.ofNat i) = i := fun i => by subst hO; rfl
  refine pure_of_body tok 4 Try.func75 en75 rfl ⟨Below.agg (AllB.ok ⟨Below.lit, Below.lit, hwg, hlg, hcg, Below.isl fun i k _ _ => ?_, ?_, trivial⟩), intsV_below _ _ _, trivial⟩ Below.lit ?_
  · unfold outX; split <;> first | exact intsV_below _ _ _ | exact Below.lit
  · exact Below.any
  refine SW.seqRun tok hO (by cbv <;> rfl) (by trivial) ?_
  refine SW.seq (SW.runN tok hO 0 (by cbv <;> rfl) (by trivial) ?_)
  refine OpsW.mkMap (by cbv <;> rfl) ?_
  refine OpsW.run tok hO (by cbv <;> rfl) (by trivial) ?_
  refine SW.seq ?_
  refine SW.seqRun tok hO (by cbv <;> rfl) (by trivial) ?_
  have hin := fun i => fvF_in (A i) fl (hA i)
  obtain ⟨key, hkey⟩ : ∃ key : Nat → FK, key = fun i => fkOf (fvF (A i) fl N) fun j => hin i j N := ⟨_, rfl⟩
  have hkeq : ∀ i j, key i = key j ↔ ∀ m, m < 4 → fvF (A i) fl N m = fvF (A j) fl N m := fun i j => by rw [hkey]; exact fkOf_eq
  obtain ⟨W0, hW0⟩ : ∃ W0 : List AV, W0 = setW nw nl A B C D a b c e hand flat (.isl wn 2 false wg) (.isl ln 3 false lg) (.isl cn 4 false cg) L := ⟨_, rfl⟩
  refine (SW.block (SW.loopR (fun x : Nat × List ((FK × Int) × Nat) × Nat => ⟨⟨43, getT [(1, intsV N false fl), (2, .ptr 0 0), (5, .mp 1), (13, .isl L 8 false (outX nw nl A B C D a b c e)), (14, iV L), (15, iV x.1)]⟩, []⟩) (fun x => ⟨[(1, .map (mapI fkV x.2.1) x.2.2)], 2⟩) (fun x => L - x.1)
    (fun x => x.1 ≤ L ∧ (x.2.1.map (·.1.1)).Nodup ∧ (∀ p ∈ x.2.1, ∃ k, k < x.1 ∧ p.1.1 = key k ∧ p.1.2 = c k) ∧ (∀ k, k < x.1 → key k ∈ x.2.1.map (·.1.1)) ∧ ∀ i j, i < x.1 → j < i → (∀ m, m < 4 → fvF (A i) fl N m = fvF (A j) fl N m) → c j = c i) (0, [], 0)
    ⟨Nat.zero_le _, List.nodup_nil, (fun _ h => nomatch h), (fun k hk => absurd hk (Nat.not_lt_zero k)), fun i _ hi => absurd hi (Nat.not_lt_zero i)⟩ (tabR []) ?_ fun x hx => ?_))
  · exact WeakR.tab rfl rfl (by simp) (by rfl) (Nat.le_refl _) (by rfl) ⟨RenV.closed (intsV_below _ _ _), RenV.ptr (by omega), RenV.mp (by omega), RenV.closed (outX_below _ _ _ _ _ _ _ _ _ _ _), RenV.closed Below.lit, RenV.closed Below.lit, trivial⟩ ⟨⟨by omega, _, rfl, .map (fun _ h => nomatch h), rfl⟩, trivial⟩
  obtain ⟨i, E, cl⟩ := x
  obtain ⟨hi, hnd, hE1, hE2, hall⟩ := hx
  simp only at hi hnd hE1 hE2 hall ⊢
  obtain ⟨ME, hME⟩ : ∃ m, mapI fkV E = m := ⟨_, rfl⟩
  rw [hME]
  refine SW.seqRun tok hO (by cbv <;> rfl) (by trivial) ?_
  refine SW.seq (SW.condS (by cbv <;> rfl) (fun h => SW.skip ?_) (fun h => SW.exit ?_))
  rotate_left
  · have hge : L ≤ i := by subst hO; simpa [std] using h
    have hiL : i = L := by omega
    rw [hR1 (fun i' j h1 h2 h3 => hall i' j (by omega) h2 h3)]
    refine SW.seqRun tok hO (by cbv <;> rfl) (by trivial) ?_
    exact SW.ret ⟨_, _, rfl, rfl, Eqv.of rfl⟩
  · have hlt : i < L := by subst hO; simpa [std] using h
    have hi0 : (0 : Int) ≤ Int.ofNat i := Int.natCast_nonneg i
    refine SW.seq (SW.block ?_)
    refine SW.seqRun tok hO (by cbv <;> rfl) ?_ ?_
    · exact ⟨hi0, Int.ofNat_lt.2 hlt⟩
    have hf := feelsOf_ok nw N false false false nl (A (O.nat (Int.ofNat i))) (B (O.nat (Int.ofNat i))) fl h4 hN hfl
    obtain ⟨g, hg⟩ : ∃ g, fvF (A (O.nat (Int.ofNat i))) fl N = g := ⟨_, rfl⟩
    rw [hg] at hf
    refine SW.seqRun tok hO (by cbv <;> rfl) (by trivial) ?_
    refine OpsW.callP hf (by cbv <;> rfl) ?_
    refine OpsW.run tok hO (by cbv <;> rfl) (by trivial) ?_
    have hgi : g = fvF (A i) fl N := by rw [← hg, hnat]
    have hkv : fkV (key i) = .agg [iV (g 0), iV (g 1), iV (g 2), iV (g 3)] := by rw [hkey, hgi]; rfl
    refine SW.seq ?_
    refine SW.seq (SW.runN tok hO 2 (by cbv <;> rfl) (by trivial) ?_)
    refine OpsW.mapLookI tok keyed167 fkKey (key i) hnd (by cbv <;> rfl) (by rw [hkv]; exact Eqv.refl _) (by kernel_rfl) zeroI3 (show _ = some (AObj.map (mapI fkV E) cl) by rw [hME]; rfl) (fun hno => ?_) (fun p hp hpk => ?_)
    · refine OpsW.run tok hO (by cbv <;> rfl) (by trivial) ?_
      refine SW.seqRun tok hO (by cbv <;> rfl) (by trivial) ?_
      refine SW.cond (t := false) (by cbv <;> rfl) (SW.skip ?_)
      have hfresh : ∀ j, j < i → key j ≠ key i := fun j hj e => by
        obtain ⟨p, hp, hpk⟩ := List.mem_map.1 (hE2 j hj)
        exact hno p hp (hpk.trans e)
      refine SW.runN tok hO 5 (by cbv <;> rfl) (by trivial) ?_
      refine OpsW.mapUpdI (E := E) (b := key i) (v := c (O.nat (Int.ofNat i))) tok keyed167 fkKey (fun p hp hpk => absurd hpk (hno p hp)) (by rw [hkv]; cbv <;> rfl) (by kernel_rfl) (show _ = some (AObj.map (mapI fkV E) cl) by rw [hME]; rfl) ?_
      have hv2 : c (O.nat (Int.ofNat i)) = c i := by rw [hnat]
      rw [hv2]
      obtain ⟨ME2, hME2⟩ : ∃ m, mapI fkV (putI E (key i) (c i) cl) = m := ⟨_, rfl⟩
      obtain ⟨cl2, hcl2⟩ : ∃ m, putC E (key i) cl = m := ⟨_, rfl⟩
      rw [hME2, hcl2]
      refine OpsW.nil ?_
      refine SW.run tok hO (by cbv <;> rfl) (by trivial) ?_
      refine ⟨(i + 1, putI E (key i) (c i) cl, cl2), by show L - (i + 1) < L - i; omega, ⟨by show i + 1 ≤ L; omega, putI_nodup hnd, fun p hp => ?_, fun k hk => ?_, fun i' j h1 h2 h3 => ?_⟩, tabR [], ?_⟩
      · rcases putI_mem hp with hp | rfl
        · obtain ⟨k, k1, k2, k3⟩ := hE1 p hp
          exact ⟨k, by show k < i + 1; omega, k2, k3⟩
        · exact ⟨i, by show i < i + 1; omega, rfl, rfl⟩
      · refine putI_key ?_
        rcases Nat.lt_or_ge k i with h5 | h5
        · exact .inl (hE2 k h5)
        · exact .inr (by rw [show k = i from by have : k < i + 1 := hk; omega])
      · have h1' : i' < i + 1 := h1
        rcases Nat.lt_or_ge i' i with h5 | h5
        · exact hall i' j h5 h2 h3
        · obtain rfl : i' = i := by omega
          exact absurd ((hkeq i' j).2 h3).symm (hfresh j h2)
      · show WeakR _ _ _ _ ⟨⟨43, getT [(1, intsV N false fl), (2, .ptr 0 0), (5, .mp 1), (13, .isl L 8 false (outX nw nl A B C D a b c e)), (14, iV L), (15, iV (i + 1 : Nat))]⟩, []⟩ ⟨[(1, .map (mapI fkV (putI E (key i) (c i) cl)) cl2)], 2⟩
        have hcl := mapI_closed (putI E (key i) (c i) cl)
        rw [hME2] at hcl ⊢
        exact WeakR.tab rfl rfl (by simp) (by rfl) (Nat.le_refl _) (by rfl) ⟨RenV.closed (intsV_below _ _ _), RenV.ptr (by omega), RenV.mp (by omega), RenV.closed (outX_below _ _ _ _ _ _ _ _ _ _ _), RenV.closed Below.lit, RenV.inc hO (by omega), trivial⟩ ⟨⟨by omega, _, rfl, .map hcl, rfl⟩, trivial⟩
    · obtain ⟨pv, hpv⟩ : ∃ pv, p.1.2 = pv := ⟨_, rfl⟩
      rw [hpv]
      have hv2 : c (O.nat (Int.ofNat i)) = c i := by rw [hnat]
      obtain ⟨k0, hk0, hpk0, hpv0⟩ := hE1 p hp
      refine OpsW.run tok hO (by cbv <;> rfl) (by trivial) ?_
      refine SW.seqRun tok hO (by cbv <;> rfl) (by trivial) ?_
      refine SW.condS (by cbv <;> rfl) (fun h6 => ?_) (fun h6 => SW.skip ?_)
      · have hne : pv ≠ c (O.nat (Int.ofNat i)) := by subst hO; simpa [std] using h6
        rw [hv2] at hne
        rw [hR0 i k0 hlt hk0 ((hkeq i k0).1 (hpk.symm.trans hpk0)) (by rw [← hpv0, hpv]; exact hne)]
        refine SW.seqRun tok hO (by cbv <;> rfl) (by trivial) ?_
        exact SW.ret ⟨_, _, rfl, rfl, Eqv.of rfl⟩
      have heq : pv = c i := by
        rw [← hv2]; subst hO; simpa [std] using h6
      have hsame : ∀ j, j < i → key j = key i → c j = c i := fun j hj e => by
        have e2 : key j = key k0 := e.trans (hpk.symm.trans hpk0)
        have e3 : c k0 = c i := by rw [← hpv0, hpv]; exact heq
        rcases Nat.lt_trichotomy j k0 with h7 | h7 | h7
        · rw [hall k0 j hk0 h7 ((hkeq k0 j).1 e2.symm)]; exact e3
        · rw [h7]; exact e3
        · rw [← hall j k0 hj h7 ((hkeq j k0).1 e2)]; exact e3
      refine SW.runN tok hO 5 (by cbv <;> rfl) (by trivial) ?_
      refine OpsW.mapUpdI (E := E) (b := key i) (v := c (O.nat (Int.ofNat i))) tok keyed167 fkKey (fun q hq hqk => by rw [nodup_val hnd hq hp (hqk.trans hpk.symm), hpv, heq, hv2]) (by rw [hkv]; cbv <;> rfl) (by kernel_rfl) (show _ = some (AObj.map (mapI fkV E) cl) by rw [hME]; rfl) ?_
      rw [hv2]
      obtain ⟨ME2, hME2⟩ : ∃ m, mapI fkV (putI E (key i) (c i) cl) = m := ⟨_, rfl⟩
      obtain ⟨cl2, hcl2⟩ : ∃ m, putC E (key i) cl = m := ⟨_, rfl⟩
      rw [hME2, hcl2]
      refine OpsW.nil ?_
      refine SW.run tok hO (by cbv <;> rfl) (by trivial) ?_
      refine ⟨(i + 1, putI E (key i) (c i) cl, cl2), by show L - (i + 1) < L - i; omega, ⟨by show i + 1 ≤ L; omega, putI_nodup hnd, fun p hp => ?_, fun k hk => ?_, fun i' j h1 h2 h3 => ?_⟩, tabR [], ?_⟩
      · rcases putI_mem hp with hp | rfl
        · obtain ⟨k, k1, k2, k3⟩ := hE1 p hp
          exact ⟨k, by show k < i + 1; omega, k2, k3⟩
        · exact ⟨i, by show i < i + 1; omega, rfl, rfl⟩
      · refine putI_key ?_
        rcases Nat.lt_or_ge k i with h5 | h5
        · exact .inl (hE2 k h5)
        · exact .inr (by rw [show k = i from by have : k < i + 1 := hk; omega])
      · have h1' : i' < i + 1 := h1
        rcases Nat.lt_or_ge i' i with h5 | h5
        · exact hall i' j h5 h2 h3
        · obtain rfl : i' = i := by omega
          exact hsame j h2 ((hkeq i' j).2 h3).symm
      · show WeakR _ _ _ _ ⟨⟨43, getT [(1, intsV N false fl), (2, .ptr 0 0), (5, .mp 1), (13, .isl L 8 false (outX nw nl A B C D a b c e)), (14, iV L), (15, iV (i + 1 : Nat))]⟩, []⟩ ⟨[(1, .map (mapI fkV (putI E (key i) (c i) cl)) cl2)], 2⟩
        have hcl := mapI_closed (putI E (key i) (c i) cl)
        rw [hME2] at hcl ⊢
        exact WeakR.tab rfl rfl (by simp) (by rfl) (Nat.le_refl _) (by rfl) ⟨RenV.closed (intsV_below _ _ _), RenV.ptr (by omega), RenV.mp (by omega), RenV.closed (outX_below _ _ _ _ _ _ _ _ _ _ _), RenV.closed Below.lit, RenV.inc hO (by omega), trivial⟩ ⟨⟨by omega, _, rfl, .map hcl, rfl⟩, trivial⟩
end
end Go.Fz
namespace Go.Fz
open Go.Proofs
set_option maxRecDepth 100000
noncomputable def feParts : Code × Code := match findRF (bodyF Try.f27) with
  | some p => p
  | none => (.skip, .skip)
def feL : List (Nat × AV) := [(2, .ptr 1 0), (3, .ptr 2 0), (4, .ptr 4 0), (19, .fn (.func 101) [] [.ptr 5 0])]
noncomputable def feR : ALoop := { state := .ready, pending := none, tmps := ⟨25, getT feL⟩, params := #[20], assign := feParts.1, body := feParts.2, dfid := 6 }
noncomputable def feRx : ALoop := { feR with state := .done, pending := some .ret }
def feH (d : DayD) (L : Nat) (G : Nat → Nat → AV) (ME : List (AV × AV × Nat)) (cl : Nat) (r : ALoop) (xs es : AV) : Hp :=
  [(7, .loop r), (6, .dfr), (5, .cells none false [iV (d.nw : Int)]), (4, .cells none false [iV d.hand, iV d.flat, womsV d, lotsV d, cntsV d, .isl L 8 false G, .mp 3]), (3, .map ME cl), (2, .cells none false [es]), (1, .cells none false [xs]), (0, .cells none false (dayC d))]
section
variable (d : DayD) (L : Nat) (G : Nat → Nat → AV) (ME : List (AV × AV × Nat)) (cl : Nat)
theorem feH_renO {ρ : Nat → Nat} {n : Nat} {r : ALoop} {xs es : AV} (hG : Below 0 (.isl L 8 false G)) (hxs : Below 0 xs) (hes : Below 0 es) (hclosed : ∀ x ∈ ME, Below 0 x.1 ∧ Below 0 x.2.1) (hr : RenO ρ n (.loop r) (.loop r)) (h1 : ρ 3 = 3) (hn : 3 < n) :
    ∀ p ∈ feH d L G ME cl r xs es, RenO ρ n p.2 p.2 := fun p hp => by
  have hmp : RenV ρ n (.mp 3) (.mp 3) := by
    have := RenV.mp (ρ := ρ) (n := n) (j := 3) hn
    rwa [h1] at this
  unfold feH at hp
  simp only [List.mem_cons, List.not_mem_nil, or_false] at hp
  rcases hp with rfl | rfl | rfl | rfl | rfl | rfl | rfl | rfl
  · exact hr
  · exact .dfr
  · exact .cells (.cons (RenV.closed Below.lit) .nil)
  · exact .cells (.cons (RenV.closed Below.lit) (.cons (RenV.closed Below.lit) (.cons (RenV.closed (womsV_below d)) (.cons (RenV.closed (lotsV_below d)) (.cons (RenV.closed (cntsV_below d)) (.cons (RenV.closed hG) (.cons hmp .nil)))))))
  · exact .map hclosed
  · exact .cells (.cons (RenV.closed hes) .nil)
  · exact .cells (.cons (RenV.closed hxs) .nil)
  · exact .cells (RenVs.closed (dayC_below d))
theorem feR_ren {ρ : Nat → Nat} {n : Nat} {s : LoopState} {c : Option Code} (h1 : ρ 1 = 1) (h2 : ρ 2 = 2) (h4 : ρ 4 = 4) (h5 : ρ 5 = 5) (h6 : ρ 6 = 6) (hn : 6 < n) : RenO ρ n (.loop { feR with state := s, pending := c }) (.loop { feR with state := s, pending := c }) := by
  have hp : ∀ j, j < n → ρ j = j → RenV ρ n (.ptr j 0) (.ptr j 0) := fun j hj e => by
    have := RenV.ptr (ρ := ρ) (n := n) (j := j) (off := 0) hj
    rwa [e] at this
  exact .loop rfl rfl rfl rfl rfl (by show 6 = ρ 6; rw [h6]) (by show 6 < n; exact hn) rfl (RenV.getT (l := feL) ⟨hp 1 (by omega) h1, hp 2 (by omega) h2, hp 4 (by omega) h4, RenV.fn .nil (.cons (hp 5 (by omega) h5) .nil), trivial⟩)
set_option maxHeartbeats 16000000 in
theorem fe_round0 (N : Nat) (fl : Nat → Int) (Q : Bool) (hset : Pure Try.prog 75 [.agg [iV d.hand, iV d.flat, womsV d, lotsV d, cntsV d, .isl L 8 false G, .any], intsV N false fl] (.lit (.bool Q))) :
    YieldW Try.prog 7 [intsV N false fl] ⟨feH d L G ME cl feR nl3 (iV 0), 8⟩ (fun v st' =>
      (v = .lit (.bool true) ∧ Q = false ∧ st' = ⟨feH d L G ME cl feR nl3 (iV 0), 8⟩) ∨ (v = .lit (.bool false) ∧ Q = true ∧ st' = ⟨feH d L G ME cl feRx (intsV N false fl) (iV 0), 8⟩)) := by
  obtain ⟨O, hO⟩ : ∃ O : Ar, O = std := ⟨_, rfl⟩
  refine YieldW.of_round (r := feR) rfl rfl ?_
  refine SW.run tok hO (by cbv <;> rfl) (by trivial) ?_
  refine ⟨feR, rfl, rfl, SW.block ?_⟩
  obtain ⟨RB, hRB⟩ : ∃ r, r = ({ feR with state := .busy } : ALoop) := ⟨_, rfl⟩
  rw [← hRB]
  refine SW.seqRun tok hO (by cbv <;> rfl) (by trivial) ?_
  refine OpsW.callP (Pure.eqv hset ?_) (by cbv <;> rfl) ?_
  · exact .cons (Eqv.agg (.cons (Eqv.refl _) (.cons (Eqv.refl _) (.cons (Eqv.refl _) (.cons (Eqv.refl _) (.cons (Eqv.refl _) (.cons (Eqv.refl _) (.cons (fun _ _ _ => .any _) .nil)))))))) (.cons (Eqv.refl _) .nil)
  cases Q with
  | false =>
    refine OpsW.run tok hO (by cbv <;> rfl) (by trivial) ?_
    refine SW.cond (t := false) (by cbv <;> rfl) (SW.skip ?_)
    refine ⟨RB, rfl, .inl ⟨rfl, rfl, ?_⟩⟩
    rw [hRB]; rfl
  | true =>
    refine OpsW.run tok hO (by cbv <;> rfl) (by trivial) ?_
    refine SW.cond (t := true) (by cbv <;> rfl) ?_
    refine SW.seqRun tok hO (by cbv <;> rfl) (by trivial) ?_
    refine SW.ret ⟨RB, rfl, .inr ⟨rfl, rfl, ?_⟩⟩
    rw [hRB]; rfl
end
end Go.Fz
namespace Go.Fz
open Go.Proofs
set_option maxRecDepth 100000
def sgN (b n2 i : Nat) : Nat := match Nat.blt i b with
  | true => i
  | false => n2 + i
theorem sgN_lo {b n2 i : Nat} (h : i < b) : sgN b n2 i = i := by
  have : Nat.blt i b = true := by rw [Nat.blt_eq]; exact h
  unfold sgN; rw [this]
theorem sgN_hi {b n2 i : Nat} (h : ¬ i < b) : sgN b n2 i = n2 + i := by
  have : Nat.blt i b = false := by rw [← Bool.not_eq_true, Nat.blt_eq]; exact h
  unfold sgN; rw [this]
section
variable (d : DayD) (L : Nat) (G : Nat → Nat → AV) (ME : List (AV × AV × Nat)) (cl : Nat) (Q : List Nat → Bool)
def feK (seen : List (List Nat)) (h : Hp) (n : Nat) : Prop := h = feH d L G ME cl feR nl3 (iV 0) ∧ 53 ≤ n ∧ ∀ l ∈ seen, Q l = false
def feS (seen : List (List Nat)) (l : List Nat) (h : Hp) (n : Nat) : Prop := h = feH d L G ME cl feRx (lsV l) (iV 0) ∧ 53 ≤ n ∧ (∀ l' ∈ seen, Q l' = false) ∧ Q l = true
variable {d L G ME cl}
theorem feH_mem {r : ALoop} {xs es : AV} {p : Nat × AObj} (hp : p ∈ feH d L G ME cl r xs es) : p.1 < 8 ∧ p.2.fam = none ∧ p.2.own = true ∧ Hp.get (feH d L G ME cl r xs es) p.1 = some p.2 := by
  unfold feH at hp
  simp only [List.mem_cons, List.not_mem_nil, or_false] at hp
  rcases hp with rfl | rfl | rfl | rfl | rfl | rfl | rfl | rfl
  all_goals exact ⟨by show _ < 8; omega, rfl, rfl, rfl⟩
theorem fe_back (hG : Below 0 (.isl L 8 false G)) (hclosed : ∀ x ∈ ME, Below 0 x.1 ∧ Below 0 x.2.1) {xs : AV} (hxs : Below 0 xs) (s : LoopState) (c : Option Code) {n n2 : Nat} (hn : 53 ≤ n) :
    WeakX (sgN 8 n2) ⟨feH d L G ME cl { feR with state := s, pending := c } xs (iV 0), n2 + n⟩ ⟨feH d L G ME cl { feR with state := s, pending := c } xs (iV 0), n⟩ := by
  refine WeakX.of (fun _ => none) (fun i j f h => by cases h) (fun p hp q hq h => ?_) (allP_of fun p hp => ?_)
  · rw [sgN_lo (feH_mem hp).1, sgN_lo (feH_mem hq).1] at h
    exact h
  · obtain ⟨k1, k2, k3, k4⟩ := feH_mem hp
    refine ⟨by omega, p.2, ?_, .base (feH_renO d L G ME cl hG hxs Below.lit hclosed (feR_ren (s := s) (c := c) rfl rfl rfl rfl rfl (by omega)) rfl (by omega) p hp), k2⟩
    rw [sgN_lo k1]
    exact k4
theorem fe_core (hG : Below 0 (.isl L 8 false G)) (hclosed : ∀ x ∈ ME, Below 0 x.1 ∧ Below 0 x.2.1) (l : List Nat) (hset : Pure Try.prog 75 [.agg [iV d.hand, iV d.flat, womsV d, lotsV d, cntsV d, .isl L 8 false G, .any], lsV l] (.lit (.bool (Q l)))) (n : Nat) (hn : 53 ≤ n) :
    YieldW Try.prog 7 [lsV l] ⟨feH d L G ME cl feR nl3 (iV 0), n⟩ (fun v st' => (v = .lit (.bool true) ∧ Q l = false ∧ st' = ⟨feH d L G ME cl feR nl3 (iV 0), n⟩) ∨ (v = .lit (.bool false) ∧ Q l = true ∧ st' = ⟨feH d L G ME cl feRx (lsV l) (iV 0), n⟩)) := by
  refine YieldW.canon (ρ := fun i => i) (st2 := ⟨feH d L G ME cl feR nl3 (iV 0), 8⟩) rfl (by show 7 < 8; omega) (fun x hx => by rw [List.mem_singleton.1 hx]; exact lsV_below l) ?_ (fe_round0 d L G ME cl l.length (fun i => ((l.getD i 0 : Nat) : Int)) (Q l) hset) fun v st2' hk => ?_
  · refine WeakX.of (fun _ => none) (fun i j f h => by cases h) (fun p hp q hq h => h) (allP_of fun p hp => ?_)
    obtain ⟨k1, k2, k3, k4⟩ := feH_mem hp
    exact ⟨k1, p.2, k4, .base (feH_renO d L G ME cl hG Below.lit Below.lit hclosed (feR_ren (s := feR.state) (c := feR.pending) rfl rfl rfl rfl rfl (by omega)) rfl (by omega) p hp), k2⟩
  · have hσ : ∀ id, id < n → (sgN 8 8 id = id ∧ (fun i : Nat => i) id = id ∧ id < 8) ∨ sgN 8 8 id = 8 + id := fun id _ => by
      by_cases h : id < 8
      · exact .inl ⟨sgN_lo h, rfl, h⟩
      · exact .inr (sgN_hi h)
    rcases hk with ⟨rfl, hq, rfl⟩ | ⟨rfl, hq, rfl⟩
    · exact ⟨⟨⟨feH d L G ME cl feR nl3 (iV 0), n⟩, sgN 8 8, .inl ⟨rfl, hq, rfl⟩, Below.lit, Nat.le_refl _, fe_back hG hclosed Below.lit feR.state feR.pending hn, hσ⟩⟩
    · exact ⟨⟨⟨feH d L G ME cl feRx (lsV l) (iV 0), n⟩, sgN 8 8, .inr ⟨rfl, hq, rfl⟩, Below.lit, Nat.le_refl _, fe_back hG hclosed (lsV_below l) .done (some .ret) hn, hσ⟩⟩
theorem fe_step (hG : Below 0 (.isl L 8 false G)) (hclosed : ∀ x ∈ ME, Below 0 x.1 ∧ Below 0 x.2.1) (ok : List Nat → Prop) (hset : ∀ l, ok l → Pure Try.prog 75 [.agg [iV d.hand, iV d.flat, womsV d, lotsV d, cntsV d, .isl L 8 false G, .any], lsV l] (.lit (.bool (Q l)))) :
    rsStep (feK d L G ME cl Q) (feS d L G ME cl Q) ok 7 := fun seen l h n R hK hok hR => by
  obtain ⟨rfl, hn, hs⟩ := hK
  have ha : Apart R ⟨feH d L G ME cl feR nl3 (iV 0), n⟩ := ⟨fun id o ho => (hR _ (Hp.mem_of_get ho)).2.2, fun id o ho => by
    cases hg : Hp.get (feH d L G ME cl feR nl3 (iV 0)) id with
    | none => rfl
    | some o' =>
      have h1 : id < 8 := (feH_mem (Hp.mem_of_get hg)).1
      have h2 : 49 ≤ id := (hR _ (Hp.mem_of_get ho)).1
      omega, fun i j oi oj hi hj ⟨f, _, k2⟩ => by
    have h2 : oj.fam = none := (feH_mem (Hp.mem_of_get hj)).2.1
    rw [h2] at k2; cases k2⟩
  refine (YieldW.frame ha (fe_core Q hG hclosed l (hset l hok) n hn) fun v st' hk id o ho => .inl ?_).mono fun v s hk => ?_
  · rcases hk with ⟨_, _, rfl⟩ | ⟨_, _, rfl⟩ <;> exact (feH_mem (Hp.mem_of_get ho)).2.2.1
  · obtain ⟨st', hk, rfl⟩ := hk
    rcases hk with ⟨rfl, hq, rfl⟩ | ⟨rfl, hq, rfl⟩
    · refine .inl ⟨rfl, _, n, Nat.le_refl _, rfl, rfl, hn, fun l' hl' => ?_⟩
      rcases List.mem_append.1 hl' with hl' | hl'
      · exact hs l' hl'
      · rw [List.mem_singleton.1 hl']; exact hq
    · exact .inr ⟨rfl, _, n, Nat.le_refl _, rfl, rfl, hn, hs, hq⟩
end
def fewV (Q : List Nat → Bool) (many : Nat) : AV := match (risL many).find? Q with
  | some l => lsV l
  | none => nl3
def fewE (Q : List Nat → Bool) (many : Nat) : Int := match (risL many).find? Q with
  | some _ => 0
  | none => 10
theorem fewV_below (Q : List Nat → Bool) (many : Nat) : Below 0 (fewV Q many) := by
  unfold fewV; split
  · exact lsV_below _
  · exact Below.lit
set_option maxHeartbeats 16000000 in
theorem fewest_core (d : DayD) (L : Nat) (G : Nat → Nat → AV) (ME : List (AV × AV × Nat)) (cl : Nat) (Q : List Nat → Bool) (hG : Below 0 (.isl L 8 false G)) (hclosed : ∀ x ∈ ME, Below 0 x.1 ∧ Below 0 x.2.1) (hnw : d.nw < 100)
    (hset : ∀ l ∈ risL d.nw, Pure Try.prog 75 [.agg [iV d.hand, iV d.flat, womsV d, lotsV d, cntsV d, .isl L 8 false G, .any], lsV l] (.lit (.bool (Q l))))
    (e2 : Fresh Try.prog 57 [dayV d, .lit (.bool true)] (fun k => .tup [.agg [iV d.hand, iV d.flat, womsV d, lotsV d, cntsV d, .isl L 8 false G, .mp k], iV 0]) ME cl) :
    Pure Try.prog 27 [dayV d] (.tup [fewV Q d.nw, iV (fewE Q d.nw)]) := by
  obtain ⟨O, hO⟩ : ∃ O : Ar, O = std := ⟨_, rfl⟩
  refine pure_of_body tok 3 Try.func27 en27 rfl ⟨dayV_below d, trivial⟩ (Below.tup (AllB.ok ⟨fewV_below _ _, Below.lit, trivial⟩)) ?_
  have hris := rising101 (K := feK d L G ME cl Q) (stop := feS d L G ME cl Q) (ok := fun l => l ∈ risL d.nw) (mc := 5) (y := 7) (many := d.nw) (by omega) hnw (fun s h n hk => by
      obtain ⟨rfl, hn, _⟩ := hk
      exact ⟨hn, fun x hx => by obtain ⟨k1, k2, _⟩ := feH_mem hx; exact ⟨by omega, k2⟩, none, false, rfl⟩)
    (fun s l h n hk => by
      obtain ⟨rfl, hn, _⟩ := hk
      exact ⟨hn, fun x hx => by have := (feH_mem hx).1; omega⟩)
    (fun s h n n' hk hle => by
      obtain ⟨rfl, hn, hs⟩ := hk
      exact ⟨rfl, by omega, hs⟩) (fun l hl => hl) (fe_step Q hG hclosed _ hset) (feH d L G ME cl feR nl3 (iV 0)) 8 (by omega) ⟨rfl, by omega, fun _ h => nomatch h⟩
  have hfinN : (∀ l ∈ risL d.nw, Q l = false) → fewV Q d.nw = nl3 ∧ fewE Q d.nw = 10 := fun h => by
    unfold fewV fewE
    rw [List.find?_eq_none.2 fun l hl => by rw [h l hl]; simp]
    exact ⟨rfl, rfl⟩
  have hfinS : ∀ pre l post, risL d.nw = pre ++ l :: post → (∀ l' ∈ pre, Q l' = false) → Q l = true → fewV Q d.nw = lsV l ∧ fewE Q d.nw = 0 := fun pre l post h1 h2 h3 => by
    unfold fewV fewE
    rw [h1, List.find?_append, List.find?_eq_none.2 fun l hl => by rw [h2 l hl]; simp, List.find?_cons, h3]
    exact ⟨rfl, rfl⟩
  generalize fewV Q d.nw = FV at hfinN hfinS ⊢
  generalize fewE Q d.nw = FE at hfinN hfinS ⊢
  unfold feK feS at hris
  refine SW.seqRun tok hO (by cbv <;> rfl) (by trivial) ?_
  refine SW.seq (SW.runN tok hO 1 (by cbv <;> rfl) (by trivial) ?_)
  refine OpsW.callS e2.ent (e2.call _) (by cbv <;> rfl) fun v st' hk => ?_
  obtain ⟨rfl, rfl⟩ := hk
  refine OpsW.run tok hO (by cbv <;> rfl) (by trivial) ?_
  refine SW.seq ?_
  refine SW.seqRun tok hO (by cbv <;> rfl) (by trivial) ?_
  refine SW.condS (by cbv <;> rfl) (fun h1 => ?_) (fun h1 => SW.skip ?_)
  · exfalso
    subst hO; simp [std] at h1
  refine SW.seq ?_
  refine SW.seqRun tok hO (by cbv <;> rfl) (by trivial) ?_
  refine OpsW.callS en74 (rising74 (many := d.nw) _ _) (by cbv <;> rfl) fun v st' hk => ?_
  obtain ⟨rfl, rfl⟩ := hk
  refine OpsW.run tok hO (by cbv <;> rfl) (by trivial) ?_
  refine SW.block ?_
  refine SW.pre (f2 := ⟨⟨25, getT feL⟩, []⟩) (st2 := ⟨[(5, .cells none false [iV (d.nw : Int)]), (4, .cells none false [iV d.hand, iV d.flat, womsV d, lotsV d, cntsV d, .isl L 8 false G, .mp 3]), (3, .map ME cl), (2, .cells none false [iV 0]), (1, .cells none false [nl3]), (0, .cells none false (dayC d))], 6⟩) ?_ ?_
  · exact Weak.by rfl rfl (fun _ h => nomatch h) (Nat.le_refl _) (Nat.le_refl _) ⟨⟨rfl, .inl rfl⟩, ⟨rfl, .inl rfl⟩, ⟨rfl, .inl rfl⟩, ⟨rfl, .inl rfl⟩, trivial⟩ ⟨⟨rfl, by show _ < 6; omega, .inl rfl⟩, ⟨rfl, by show _ < 6; omega, .inl rfl⟩, ⟨rfl, by show _ < 6; omega, .inl rfl⟩, ⟨rfl, by show _ < 6; omega, .inl rfl⟩, ⟨rfl, by show _ < 6; omega, .inl rfl⟩, ⟨rfl, by show _ < 6; omega, .inl rfl⟩, trivial⟩
  refine SW.rangeFunc (gf := 101) (first := []) (caps := [.ptr 5 0]) (by rfl) en101 ?_
  refine CallW.mono (show CallW Try.prog 101 [.yld 7, .ptr 5 0] ⟨feH d L G ME cl feR nl3 (iV 0), 8⟩ _ from hris) fun v st' hk => ?_
  obtain ⟨h, n, rfl, hk | ⟨pre, l, post, hE, hk⟩⟩ := hk
  · obtain ⟨rfl, hn, hseen⟩ := hk
    refine ⟨feR, rfl, (fun h => by simp [feR] at h), ?_⟩
    obtain ⟨e3, e4⟩ := hfinN hseen
    rw [e3, e4]
    show SW _ _ _ _ _ _
    refine SW.seqRun tok hO (by cbv <;> rfl) (by trivial) ?_
    exact SW.ret ⟨_, _, rfl, rfl, Eqv.of rfl⟩
  · obtain ⟨rfl, hn, hpre, hl⟩ := hk
    refine ⟨feRx, rfl, (fun h => by simp [feRx, feR] at h), ?_⟩
    obtain ⟨e3, e4⟩ := hfinS pre l post hE hpre hl
    rw [e3, e4]
    obtain ⟨N, fl, hlv⟩ : ∃ N fl, lsV l = intsV N false fl := ⟨_, _, rfl⟩
    rw [hlv]
    exact SW.ret ⟨_, _, rfl, rfl, Eqv.of rfl⟩
end Go.Fz
namespace Go.Fz
open Go.Proofs
set_option maxRecDepth 100000
theorem risE_lt {many : Nat} : ∀ (m : Nat) (p : List Nat) (s : Nat) (l : List Nat), l ∈ risE many m p s → (∀ x ∈ p, x < many) → ∀ x ∈ l, x < many
  | 0, p, s, l, h, hp => by rw [List.mem_singleton.1 h]; exact hp
  | m + 1, p, s, l, h, hp => by
    obtain ⟨c, hc, hl⟩ := List.mem_flatMap.1 h
    have hc' := List.mem_range.1 hc
    refine risE_lt m _ _ l hl fun x hx => ?_
    rcases List.mem_append.1 hx with hx | hx
    · exact hp x hx
    · rw [List.mem_singleton.1 hx]; omega
theorem risL_lt {many : Nat} {l : List Nat} (h : l ∈ risL many) : ∀ x ∈ l, x < many := by
  obtain ⟨m, _, hl⟩ := List.mem_flatMap.1 h
  exact risE_lt m [] 0 l hl fun x hx => by cases hx
def DayD.setQ (d : DayD) (outs : List (Nat → Int)) (l : List Nat) : Bool := allN outs.length fun i => allN i fun j =>
  !(allN 4 fun m => decide (fvF (nthF outs i) (fun k => ((l.getD k 0 : Nat) : Int)) l.length m = fvF (nthF outs j) (fun k => ((l.getD k 0 : Nat) : Int)) l.length m)) || decide ((d.tally (truF d (nthF outs j))).flats = (d.tally (truF d (nthF outs i))).flats)
theorem setQ_iff (d : DayD) (outs : List (Nat → Int)) (l : List Nat) : d.setQ outs l = true ↔ ∀ i, i < outs.length → ∀ j, j < i → (∀ m, m < 4 → fvF (nthF outs i) (fun k => ((l.getD k 0 : Nat) : Int)) l.length m = fvF (nthF outs j) (fun k => ((l.getD k 0 : Nat) : Int)) l.length m) →
    (d.tally (truF d (nthF outs j))).flats = (d.tally (truF d (nthF outs i))).flats := by
  unfold DayD.setQ
  simp only [allN, decide_eq_true_eq, Bool.or_eq_true, Bool.not_eq_true', decide_eq_false_iff_not]
  constructor
  · intro h i hi j hj hm
    rcases h i hi j hj with h1 | h1
    · exact absurd hm h1
    · exact h1
  · intro h i hi j hj
    by_cases hm : ∀ m, m < 4 → fvF (nthF outs i) (fun k => ((l.getD k 0 : Nat) : Int)) l.length m = fvF (nthF outs j) (fun k => ((l.getD k 0 : Nat) : Int)) l.length m
    · exact .inr (h i hi j hj hm)
    · exact .inl hm
theorem outs_in {d : DayD} (hc : d.check = 0) {f : Nat → Int} (hf : f ∈ d.seen.outs) (j : Nat) : 0 ≤ f j ∧ f j ≤ 1000000 := by
  obtain ⟨t, h1, h2, _⟩ := (seen_out d f).1 hf
  have g := unk_in (good_of_check hc)
  rw [← h2]
  unfold cutF
  split
  · rename_i h
    have := h1 j h
    have := g j h
    omega
  · omega
theorem fewestP_ok (d : DayD) (hs : d.small) (hc : d.check = 0) (hne : d.seen.outs ≠ []) : Pure Try.prog 27 [dayV d] (.tup [fewV (d.setQ d.seen.outs) d.nw, iV (fewE (d.setQ d.seen.outs) d.nw)]) := by
  have g := good_of_check hc
  have hnw := g.nw
  have hin : ∀ f ∈ d.seen.outs, ∀ j, 0 ≤ f j ∧ f j ≤ 1000000 := fun f hf j => outs_in hc hf j
  have hlen := foldE_outs d hc
  cases ho : d.seen.outs with
  | nil => exact absurd ho hne
  | cons f0 l0 =>
    have e2 := open_ok d hs hc f0 l0 ho
    rw [ho] at hin hlen
    obtain ⟨outs, houts⟩ : ∃ o, f0 :: l0 = o := ⟨_, rfl⟩
    have hl : l0.length + 1 = outs.length := by rw [← houts]; rfl
    have hA : ∀ i j, 0 ≤ nthF outs i j ∧ nthF outs i j ≤ 1000000 := fun i j => by
      unfold nthF
      by_cases hi : i < outs.length
      · rw [List.getD_eq_getElem?_getD, List.getElem?_eq_getElem hi, Option.getD_some]
        exact hin _ (by rw [houts]; exact List.getElem_mem hi) j
      · rw [List.getD_eq_getElem?_getD, List.getElem?_eq_none (by omega)]
        show (0 : Int) ≤ 0 ∧ (0 : Int) ≤ 1000000
        omega
    rw [houts] at hlen
    rw [houts]
    have hX : outsI d (f0 :: l0) = .isl outs.length 8 false (outG d outs) := by
      show AV.isl (l0.length + 1) 8 false (outG d (f0 :: l0)) = _
      rw [hl, houts]
    refine fewest_core d outs.length (outG d outs) (mapE mkV d.seen.E) d.seen.cl (d.setQ outs) (by rw [← hX]; exact outsI_below d _) (mapE_closed _) (by omega) (fun l hlm => ?_) ?_
    · rw [outG_X]
      have hll := risL_len hlm
      have hlt := risL_lt hlm
      refine settles_ok d.nw d.nl _ _ _ _ _ _ _ _ d.hand d.flat d.nw d.nl d.nc (womC d) (lotC d) (cntC d) (womsV_below d) (lotsV_below d) (cntsV_below d) outs.length l.length (fun k => ((l.getD k 0 : Nat) : Int)) (by omega) (by omega) (by omega) (fun k hk => ?_) hA (d.setQ outs l) (fun h => ?_) (fun i j hi hj hm hne' => ?_)
      · have : l.getD k 0 < d.nw := hlt _ (by rw [List.getD_eq_getElem?_getD, List.getElem?_eq_getElem hk]; exact List.getElem_mem hk)
        show (0 : Int) ≤ ((l.getD k 0 : Nat) : Int) ∧ ((l.getD k 0 : Nat) : Int) < (d.nw : Int)
        omega
      · exact (setQ_iff d outs l).2 fun i hi j hj hm => h i j hi hj hm
      · rw [← Bool.not_eq_true]; exact fun h => hne' ((setQ_iff d outs l).1 h i hi j hj hm)
    · have : (fun k => AV.tup [workM d (f0 :: l0) k, iV 0]) = fun k => .tup [.agg [iV d.hand, iV d.flat, womsV d, lotsV d, cntsV d, .isl outs.length 8 false (outG d outs), .mp k], iV 0] := by
        funext k
        unfold workM workC
        rw [hX]
      rw [← this]
      exact e2
end Go.Fz
namespace Go.Fz
open Go.Proofs
set_option maxRecDepth 100000
theorem leaveA_ok (d : DayD) (hs : d.small) (hc : d.check = 0) : Pure Try.prog 31 [dayV d] (.tup [leaveV d.seen.E d.nc, iV 0]) := by
  have e1 := checkDay_ok d hs
  rw [hc] at e1
  have hnc := (good_of_check hc).nc
  exact leave_core d d.seen.E d.seen.cl d.seen.outs (seen_born d) (by omega) e1 (start_ok d hc)
end Go.Fz
namespace Go.Fz
open Go.Proofs
set_option maxRecDepth 100000
end Go.Fz
namespace Go.Fz
open Go.Proofs
set_option maxRecDepth 100000
theorem mem_nth {l : List (Nat → Int)} {f : Nat → Int} (h : f ∈ l) : ∃ i, i < l.length ∧ nthF l i = f := by
  obtain ⟨i, hi, e⟩ := List.getElem_of_mem h
  exact ⟨i, hi, by unfold nthF; rw [List.getD_eq_getElem?_getD, List.getElem?_eq_getElem hi]; exact e⟩
structure Alike (A B : DayD) : Prop where
  hand : A.hand = B.hand
  flat : A.flat = B.flat
  nw : A.nw = B.nw
  nl : A.nl = B.nl
  lw : A.lw = B.lw
theorem Alike.stem {A B : DayD} (h : Alike A B) (st : Nat → Int) (w : Int) : ∀ n, stemN A st w n = stemN B st w n
  | 0 => rfl
  | n + 1 => by
    show (if A.lw n = w then add64 (stemN A st w n) (st n) else stemN A st w n) = (if B.lw n = w then add64 (stemN B st w n) (st n) else stemN B st w n)
    rw [Alike.stem h st w n, h.lw]
theorem Alike.bun {A B : DayD} (h : Alike A B) (t : TruD) : A.bun t = B.bun t := funext fun w => by unfold DayD.bun; rw [h.stem]
theorem Alike.lef {A B : DayD} (h : Alike A B) (t : TruD) : A.lef t = B.lef t := funext fun w => by unfold DayD.lef; rw [h.stem]
theorem Alike.tally {A B : DayD} (h : Alike A B) (t : TruD) : A.tally t = B.tally t := by
  have h3 : A.all t = B.all t := by unfold DayD.all; rw [h.bun, h.nw]
  unfold DayD.tally
  rw [h.bun, h.lef, h3, h.hand, h.flat, h.nw]
theorem ris_len {many : Nat} (hm : many ≤ 5) {pre post : List (List Nat)} {l a : List Nat} (hE : risL many = pre ++ l :: post) (ha : a ∈ risL many) (hp : a ∉ pre) : l.length ≤ a.length := by
  rcases Nat.lt_or_ge a.length l.length with h | h
  · refine absurd (ris_before hm hE ha ?_) hp
    unfold shL shortB
    have : (a.length : Int) < l.length := by omega
    rw [decide_eq_true this]; rfl
  · exact h
theorem find_split {α : Type} {p : α → Bool} : ∀ {l : List α} {a : α}, l.find? p = some a → ∃ pre post, l = pre ++ a :: post ∧ (∀ b ∈ pre, p b = false) ∧ p a = true
  | [], _, h => by cases h
  | x :: l, a, h => by
    rw [List.find?_cons] at h
    split at h
    · rename_i hx
      cases h
      exact ⟨[], l, rfl, (fun b hb => by cases hb), hx⟩
    · rename_i hx
      obtain ⟨pre, post, h1, h2, h3⟩ := find_split h
      refine ⟨x :: pre, post, by rw [h1]; rfl, fun b hb => ?_, h3⟩
      rcases List.mem_cons.1 hb with rfl | hb
      · simpa using hx
      · exact h2 b hb
theorem find_short {many : Nat} (hm : many ≤ 5) {p : List Nat → Bool} {l a : List Nat} (h : (risL many).find? p = some l) (ha : a ∈ risL many) (hp : p a = true) : l.length ≤ a.length := by
  obtain ⟨pre, post, h1, h2, _⟩ := find_split h
  refine ris_len hm h1 ha fun hin => ?_
  rw [h2 a hin] at hp; cases hp
theorem leave_find {d : DayD} (hc : d.check = 0) (hn : d.nc ≤ 5) : ∃ l, (risL d.nc).find? (leaveQ d.seen.E) = some l ∧ leaveV d.seen.E d.nc = lsV l := by
  obtain ⟨pre, l, post, h1, h2, h3, h4⟩ := left_found hc hn
  have hf : (risL d.nc).find? (leaveQ d.seen.E) = some l := by
    rw [h1]
    clear h1
    induction pre with
    | nil => rw [List.nil_append, List.find?_cons, h3]
    | cons x pre ih =>
      rw [List.cons_append, List.find?_cons, h2 x (by simp)]
      exact ih fun l' hl' => h2 l' (by simp [hl'])
  exact ⟨l, hf, h4⟩
section
variable (d : DayD) (k w lo hi : Int)
end
end Go.Fz
namespace Go.Fz
open Go.Proofs
set_option maxRecDepth 100000
set_option linter.unusedVariables false
end Go.Fz
namespace Go.Fz
open Go.Proofs
set_option maxRecDepth 100000
end Go.Fz
namespace Go.Fz
open Go.Proofs
set_option maxRecDepth 100000
set_option linter.unusedVariables false
def bitsN (b : Nat → Bool) : Nat → Int
  | 0 => 0
  | i + 1 => if b i then std.bin .or .i64 (bitsN b i) (std.bin .shl .i64 1 (std.conv .u64 (Int.ofNat i))) else bitsN b i
end Go.Fz
namespace Go.Fz
open Go.Proofs
set_option maxRecDepth 100000
section
variable {T : Ti}
end
end Go.Fz
namespace Go.Fz
open Go.Proofs
set_option maxRecDepth 100000
set_option linter.unusedVariables false
end Go.Fz
namespace Go.Fz
open Go.Proofs
set_option maxRecDepth 100000
set_option linter.unusedVariables false
def selT (p : Nat → Bool) : Nat → List Nat
  | 0 => []
  | i + 1 => if p i then selT p i ++ [i] else selT p i
end Go.Fz
namespace Go.Fz
open Go.Proofs
set_option maxRecDepth 100000
set_option linter.unusedVariables false
end Go.Fz
