/- Own work of the verifier of watercress: FzH1, FzH2, FzH3, FzO1, FzO4. -/
import Derived.Test.YtpefamheopplnaaMd25
import Derived.Test.YtpefamheopplnaaMd26
import Derived.Test.YtpefamheopplnaaMd20
import Derived.Test.YtpefamheopplnaaMd18
set_option linter.unusedVariables false
set_option linter.unusedSimpArgs false
namespace Go.Fz
open Go.Proofs
set_option maxRecDepth 100000
def befF (fa fb : Nat → Int) (na nb : Nat) : Nat → Nat → Bool
  | _, 0 => decide ((na : Int) < nb)
  | i, k + 1 => if i < na ∧ i < nb then (if fa i = fb i then befF fa fb na nb (i + 1) k else decide (fa i < fb i)) else decide ((na : Int) < nb)
set_option pp.deepTerms false
set_option pp.deepTerms.threshold 5
def shortB (na nb : Nat) (fa fb : Nat → Int) : Bool := decide ((na : Int) < nb) || (decide ((na : Int) = nb) && befF fa fb na nb 0 (na + 1))
end Go.Fz
namespace Go.Fz
open Go.Proofs
set_option maxRecDepth 100000
def lI (l : List Nat) (i : Nat) : Int := ((l.getD i 0 : Nat) : Int)
end Go.Fz
namespace Go.Fz
open Go.Proofs
set_option maxRecDepth 100000
def shL (a b : List Nat) : Bool := shortB a.length b.length (lI a) (lI b)
theorem ord_fin : ∀ many : Fin 6, (risL many.1).Pairwise (fun x y => shL y x = false) ∧ (∀ l ∈ risL many.1, shL l l = false) ∧ List.range many.1 ∈ risL many.1 := by
  decide +kernel
theorem ris_before {many : Nat} (hm : many ≤ 5) {pre post : List (List Nat)} {l a : List Nat} (hE : risL many = pre ++ l :: post) (ha : a ∈ risL many) (hs : shL a l = true) : a ∈ pre := by
  obtain ⟨h1, h2, _⟩ := ord_fin ⟨many, by omega⟩
  simp only at h1 h2
  have hl := h2 l (by rw [hE]; simp)
  rw [hE] at h1 ha
  rcases List.mem_append.1 ha with ha | ha
  · exact ha
  · rcases List.mem_cons.1 ha with rfl | ha
    · rw [hl] at hs; cases hs
    · have := (List.pairwise_append.1 h1).2.1
      have := (List.pairwise_cons.1 this).1 a ha
      rw [this] at hs; cases hs
theorem hasN_lI (l : List Nat) (i : Nat) : hasN l.length (lI l) (i : Int) = decide (i ∈ l) := by
  unfold hasN
  refine decide_eq_decide.2 ⟨fun ⟨k, hk, h⟩ => ?_, fun h => ?_⟩
  · unfold lI at h
    have : l.getD k 0 = i := by omega
    rw [← this, List.getD_eq_getElem?_getD, List.getElem?_eq_getElem hk]
    exact List.getElem_mem hk
  · obtain ⟨k, hk, h⟩ := List.getElem_of_mem h
    exact ⟨k, hk, by unfold lI; rw [List.getD_eq_getElem?_getD, List.getElem?_eq_getElem hk, Option.getD_some, h]⟩
theorem mkB_wrong {d : DayD} (f : Nat → Int) {j : Nat} (hj : j < 5) : mkB (wrongOf d f) j = wrM (d.okC f) d.nc j := by
  match j, hj with
  | 0, _ | 1, _ | 2, _ | 3, _ | 4, _ => rfl
theorem within_wrong {d : DayD} (hn : d.nc ≤ 5) (f : Nat → Int) (l : List Nat) : withinL (wrongOf d f) l.length (lI l) = true ↔ ∀ j, j < d.nc → j ∉ l → d.okC f j = true := by
  unfold withinL
  simp only [allN, decide_eq_true_eq, Bool.or_eq_true, Bool.not_eq_true']
  constructor
  · intro h j hj hl
    have h1 := h j (by omega)
    rw [mkB_wrong f (by omega), hasN_lI] at h1
    rcases h1 with h1 | h1
    · unfold wrM at h1
      cases hr : d.okC f j with
      | true => rfl
      | false => rw [hr] at h1; simp [hj] at h1
    · exact absurd (of_decide_eq_true h1) hl
  · intro h j hj
    rw [mkB_wrong f hj, hasN_lI]
    by_cases hl : j ∈ l
    · exact .inr (decide_eq_true hl)
    · refine .inl ?_
      unfold wrM
      by_cases hjn : j < d.nc
      · rw [h j hjn hl]; simp
      · simp [hjn]
theorem leaveQ_iff {d : DayD} (hn : d.nc ≤ 5) (l : List Nat) : leaveQ d.seen.E l = true ↔ ∃ t, d.inR t ∧ ∀ j, j < d.nc → j ∉ l → d.okC (cutF (d.nw + d.nl) t) j = true := by
  unfold leaveQ
  rw [List.any_eq_true]
  constructor
  · rintro ⟨p, hp, h⟩
    obtain ⟨t, h1, h2⟩ := (seen_key d p.1).1 (List.mem_map.2 ⟨p, hp, rfl⟩)
    rw [← h2] at h
    exact ⟨t, h1, (within_wrong hn _ l).1 h⟩
  · rintro ⟨t, h1, h2⟩
    obtain ⟨p, hp, h3⟩ := List.mem_map.1 ((seen_key d _).2 ⟨t, h1, rfl⟩)
    exact ⟨p, hp, by rw [h3]; exact (within_wrong hn _ l).2 h2⟩
theorem left_found {d : DayD} (hc : d.check = 0) (hn : d.nc ≤ 5) : ∃ pre l post, risL d.nc = pre ++ l :: post ∧ (∀ l' ∈ pre, leaveQ d.seen.E l' = false) ∧ leaveQ d.seen.E l = true ∧ leaveV d.seen.E d.nc = lsV l := by
  have hr : List.range d.nc ∈ risL d.nc := (ord_fin ⟨d.nc, by omega⟩).2.2
  have hq : leaveQ d.seen.E (List.range d.nc) = true := by
    have g := unk_in (good_of_check hc)
    refine (leaveQ_iff hn _).2 ⟨d.ulo, fun m hm => ⟨Int.le_refl _, (g m hm).2.1⟩, fun j hj hl => absurd (List.mem_range.2 hj) hl⟩
  obtain ⟨l, hf⟩ : ∃ l, (risL d.nc).find? (leaveQ d.seen.E) = some l := by
    cases h : (risL d.nc).find? (leaveQ d.seen.E) with
    | some l => exact ⟨l, rfl⟩
    | none =>
      have := List.find?_eq_none.1 h _ hr
      rw [hq] at this
      exact absurd rfl this
  obtain ⟨hl, pre, post, hE, hpre⟩ := List.find?_eq_some_iff_append.1 hf
  refine ⟨pre, l, post, hE, fun l' hl' => by simpa using hpre l' hl', hl, ?_⟩
  unfold leaveV
  rw [hf]
end Go.Fz
namespace Go.Fz
open Go.Proofs
set_option maxRecDepth 100000
theorem mem_nth {l : List (Nat → Int)} {f : Nat → Int} (h : f ∈ l) : ∃ i, i < l.length ∧ nthF l i = f := by
  obtain ⟨i, hi, e⟩ := List.getElem_of_mem h
  exact ⟨i, hi, by unfold nthF; rw [List.getD_eq_getElem?_getD, List.getElem?_eq_getElem hi]; exact e⟩
theorem len_pos {α : Type} {l : List α} (h : l ≠ []) : 0 < l.length := by
  cases l with
  | nil => exact absurd rfl h
  | cons a l => simp
theorem ends_sub {A B : List (Nat → Int)} (hsub : ∀ f, f ∈ A → f ∈ B) (hne : A ≠ []) (V W : (Nat → Int) → Int) (h : ∀ f, V f = W f) :
    mnF (fun i => W (nthF B i)) B.length ≤ mnF (fun i => V (nthF A i)) A.length ∧ mxF (fun i => V (nthF A i)) A.length ≤ mxF (fun i => W (nthF B i)) B.length := by
  have h0 := len_pos hne
  constructor
  · obtain ⟨i, hi, e⟩ := mnF_mem (V := fun i => V (nthF A i)) h0
    obtain ⟨j, hj, e2⟩ := mem_nth (hsub _ (nth_mem hi))
    rw [← e]
    show _ ≤ V (nthF A i)
    rw [← e2, h]
    exact mnF_le (V := fun i => W (nthF B i)) hj
  · obtain ⟨i, hi, e⟩ := mxF_mem (V := fun i => V (nthF A i)) h0
    obtain ⟨j, hj, e2⟩ := mem_nth (hsub _ (nth_mem hi))
    rw [← e]
    show V (nthF A i) ≤ _
    rw [← e2, h]
    exact mxF_ge (V := fun i => W (nthF B i)) hj
structure Alike (A B : DayD) : Prop where
  hand : A.hand = B.hand
  flat : A.flat = B.flat
  nw : A.nw = B.nw
  nl : A.nl = B.nl
  lw : A.lw = B.lw
theorem Alike.stem {A B : DayD} (h : Alike A B) (st : Nat → Int) (w : Int) : ∀ n, stemN A st w n = stemN B st w n
  | 0 => rfl
  | n + 1 => by
    show (if A.lw n = w then add64 (stemN A st w n) (st n) else stemN A st w n) = (if B.lw n = w then add64 (stemN B st w n) (st n) else stemN B st w n)
    rw [Alike.stem h st w n, h.lw]
theorem Alike.tru {A B : DayD} (h : Alike A B) (f : Nat → Int) : truF A f = truF B f := by
  unfold truF; rw [h.nw, h.nl]
theorem Alike.bun {A B : DayD} (h : Alike A B) (t : TruD) : A.bun t = B.bun t := funext fun w => by unfold DayD.bun; rw [h.stem]
theorem Alike.lef {A B : DayD} (h : Alike A B) (t : TruD) : A.lef t = B.lef t := funext fun w => by unfold DayD.lef; rw [h.stem]
theorem Alike.tally {A B : DayD} (h : Alike A B) (t : TruD) : A.tally t = B.tally t := by
  have h3 : A.all t = B.all t := by unfold DayD.all; rw [h.bun, h.nw]
  unfold DayD.tally
  rw [h.bun, h.lef, h3, h.hand, h.flat, h.nw]
theorem narrow_ok {A B : DayD} (hl : Alike A B) (hn : A.nw < 1000) (hsub : ∀ f, f ∈ A.seen.outs → f ∈ B.seen.outs) (hne : A.seen.outs ≠ []) : Pure Try.prog 48 [A.bndV, B.bndV] (.lit (.bool true)) := by
  have hE := fun V W h => ends_sub hsub hne V W h
  unfold DayD.bndV
  rw [← hl.nw]
  refine narrower_ok A.nw hn _ _ _ _ _ _ _ _ _ _ _ _ _ _ _ _ _ _ _ _ _ _ _ _ _ _ _ _ (fun w _ => ?_) (fun w _ => ?_) (fun w _ => ?_) ?_ ?_ ?_ ?_
  · exact hE (fun f => f w) (fun f => f w) (fun _ => rfl)
  · exact hE (fun f => A.bun (truF A f) w) (fun f => B.bun (truF B f) w) (fun f => by rw [hl.tru, hl.bun])
  · exact hE (fun f => A.lef (truF A f) w) (fun f => B.lef (truF B f) w) (fun f => by rw [hl.tru, hl.lef])
  · exact hE (fun f => (A.tally (truF A f)).hands) (fun f => (B.tally (truF B f)).hands) (fun f => by rw [hl.tru, hl.tally])
  · exact hE (fun f => (A.tally (truF A f)).loose) (fun f => (B.tally (truF B f)).loose) (fun f => by rw [hl.tru, hl.tally])
  · exact hE (fun f => (A.tally (truF A f)).flats) (fun f => (B.tally (truF B f)).flats) (fun f => by rw [hl.tru, hl.tally])
  · exact hE (fun f => (A.tally (truF A f)).spare) (fun f => (B.tally (truF B f)).spare) (fun f => by rw [hl.tru, hl.tally])
theorem some_sub {A B : List (Nat → Int)} (hsub : ∀ f, f ∈ A → f ∈ B) (c : (Nat → Int) → Bool) (x : Bool) (h : someB (fun i => c (nthF A i)) x A.length = true) : someB (fun i => c (nthF B i)) x B.length = true := by
  unfold someB at *
  rw [decide_eq_true_eq, bmP_mem] at *
  obtain ⟨i, hi, e⟩ := h
  obtain ⟨j, hj, e2⟩ := mem_nth (hsub _ (nth_mem hi))
  exact ⟨j, hj, by rw [e2]; exact e⟩
theorem thick_sub {A B : DayD} (hsub : ∀ f, f ∈ A.seen.outs → f ∈ B.seen.outs) (hne : A.seen.outs ≠ []) (w : Nat) (n : Int) : B.thick w n = 3 ∨ B.thick w n = A.thick w n := by
  have hneB : B.seen.outs ≠ [] := fun e => by
    obtain ⟨i, hi, _⟩ := mem_nth (List.getElem_mem (len_pos hne))
    have := hsub _ (nth_mem hi)
    rw [e] at this; cases this
  have hA := len_pos hne
  have hB := len_pos hneB
  unfold DayD.thick
  rw [if_neg hne, if_neg hneB]
  have h0 := some_sub hsub (fun f => decide (n < f w)) false
  have h1 := some_sub hsub (fun f => decide (n < f w)) true
  unfold verdict at *
  have h2 : someB (fun i => decide (n < nthF A.seen.outs i w)) false A.seen.outs.length = false → someB (fun i => decide (n < nthF A.seen.outs i w)) true A.seen.outs.length = true := fun h => by
    cases hb : decide (n < nthF A.seen.outs 0 w) with
    | true => unfold someB; rw [decide_eq_true_eq, bmP_mem]; exact ⟨0, hA, hb⟩
    | false =>
      have : someB (fun i => decide (n < nthF A.seen.outs i w)) false A.seen.outs.length = true := by unfold someB; rw [decide_eq_true_eq, bmP_mem]; exact ⟨0, hA, hb⟩
      rw [this] at h; cases h
  revert h0 h1 h2
  cases someB (fun i => decide (n < nthF B.seen.outs i w)) false B.seen.outs.length <;> cases someB (fun i => decide (n < nthF B.seen.outs i w)) true B.seen.outs.length <;>
    cases someB (fun i => decide (n < nthF A.seen.outs i w)) false A.seen.outs.length <;> cases someB (fun i => decide (n < nthF A.seen.outs i w)) true A.seen.outs.length <;> simp
theorem set_sub {A B : DayD} (hl : Alike A B) (hsub : ∀ f, f ∈ A.seen.outs → f ∈ B.seen.outs) (l : List Nat) (h : B.setQ B.seen.outs l = true) : A.setQ A.seen.outs l = true := by
  rw [setQ_iff] at *
  intro i hi j hj hm
  obtain ⟨i', hi', ei⟩ := mem_nth (hsub _ (nth_mem hi))
  obtain ⟨j', hj', ej⟩ := mem_nth (hsub _ (nth_mem (show j < A.seen.outs.length by omega)))
  have ht : ∀ f, (A.tally (truF A f)).flats = (B.tally (truF B f)).flats := fun f => by rw [hl.tru, hl.tally]
  rw [ht, ht, ← ei, ← ej]
  rw [← ei, ← ej] at hm
  rcases Nat.lt_trichotomy i' j' with hlt | heq | hgt
  · exact (h j' hj' i' hlt (fun m hm4 => (hm m hm4).symm)).symm
  · rw [heq]
  · exact h i' hi' j' hgt hm
theorem ris_len {many : Nat} (hm : many ≤ 5) {pre post : List (List Nat)} {l a : List Nat} (hE : risL many = pre ++ l :: post) (ha : a ∈ risL many) (hp : a ∉ pre) : l.length ≤ a.length := by
  rcases Nat.lt_or_ge a.length l.length with h | h
  · refine absurd (ris_before hm hE ha ?_) hp
    unfold shL shortB
    have : (a.length : Int) < l.length := by omega
    rw [decide_eq_true this]; rfl
  · exact h
theorem find_split {α : Type} {p : α → Bool} : ∀ {l : List α} {a : α}, l.find? p = some a → ∃ pre post, l = pre ++ a :: post ∧ (∀ b ∈ pre, p b = false) ∧ p a = true
  | [], _, h => by cases h
  | x :: l, a, h => by
    rw [List.find?_cons] at h
    split at h
    · rename_i hx
      cases h
      exact ⟨[], l, rfl, (fun b hb => by cases hb), hx⟩
    · rename_i hx
      obtain ⟨pre, post, h1, h2, h3⟩ := find_split h
      refine ⟨x :: pre, post, by rw [h1]; rfl, fun b hb => ?_, h3⟩
      rcases List.mem_cons.1 hb with rfl | hb
      · simpa using hx
      · exact h2 b hb
theorem find_short {many : Nat} (hm : many ≤ 5) {p : List Nat → Bool} {l a : List Nat} (h : (risL many).find? p = some l) (ha : a ∈ risL many) (hp : p a = true) : l.length ≤ a.length := by
  obtain ⟨pre, post, h1, h2, _⟩ := find_split h
  refine ris_len hm h1 ha fun hin => ?_
  rw [h2 a hin] at hp; cases hp
theorem find_in {many : Nat} {p : List Nat → Bool} {l : List Nat} (h : (risL many).find? p = some l) : l ∈ risL many ∧ p l = true := by
  obtain ⟨pre, post, h1, _, h3⟩ := find_split h
  exact ⟨by rw [h1]; simp, h3⟩
theorem find_ex {many : Nat} {p : List Nat → Bool} {a : List Nat} (ha : a ∈ risL many) (hp : p a = true) : ∃ l, (risL many).find? p = some l := by
  cases h : (risL many).find? p with
  | some l => exact ⟨l, rfl⟩
  | none =>
    have := List.find?_eq_none.1 h a ha
    rw [hp] at this; exact absurd rfl this
theorem leave_find {d : DayD} (hc : d.check = 0) (hn : d.nc ≤ 5) : ∃ l, (risL d.nc).find? (leaveQ d.seen.E) = some l ∧ leaveV d.seen.E d.nc = lsV l := by
  obtain ⟨pre, l, post, h1, h2, h3, h4⟩ := left_found hc hn
  have hf : (risL d.nc).find? (leaveQ d.seen.E) = some l := by
    rw [h1]
    clear h1
    induction pre with
    | nil => rw [List.nil_append, List.find?_cons, h3]
    | cons x pre ih =>
      rw [List.cons_append, List.find?_cons, h2 x (by simp)]
      exact ih fun l' hl' => h2 l' (by simp [hl'])
  exact ⟨l, hf, h4⟩
def DayD.plus (d : DayD) (k w lo hi : Int) : DayD := { d with
  nc := d.nc + 1
  ck := fun i => if i < d.nc then d.ck i else k
  cw := fun i => if i < d.nc then d.cw i else w
  clo := fun i => if i < d.nc then d.clo i else lo
  chi := fun i => if i < d.nc then d.chi i else hi }
section
variable (d : DayD) (k w lo hi : Int)
theorem plus_alike : Alike (d.plus k w lo hi) d := ⟨rfl, rfl, rfl, rfl, rfl⟩
theorem plus_okC (f : Nat → Int) {j : Nat} (hj : j < d.nc) : (d.plus k w lo hi).okC f j = d.okC f j := by
  unfold DayD.okC
  rw [(plus_alike d k w lo hi).tru, (plus_alike d k w lo hi).tally]
  unfold DayD.rightB
  show inB (TalD.cnt _ (if j < d.nc then d.ck j else k) (if j < d.nc then d.cw j else w)) (if j < d.nc then d.clo j else lo) (if j < d.nc then d.chi j else hi) = _
  rw [if_pos hj, if_pos hj, if_pos hj, if_pos hj]
theorem plus_sub (hn : d.nc + 1 ≤ 5) : ∀ f, f ∈ (d.plus k w lo hi).seen.outs → f ∈ d.seen.outs := fun f hf => by
  obtain ⟨t, h1, h2, h3⟩ := (seen_out _ f).1 hf
  rw [wrong_no (show (d.plus k w lo hi).nc ≤ 5 from hn)] at h3
  refine (seen_out d f).2 ⟨t, h1, h2, (wrong_no (by omega) f).2 fun j hj => ?_⟩
  rw [← plus_okC d k w lo hi f hj]
  exact h3 j (Nat.lt_succ_of_lt hj)
theorem ris_plus : ∀ n : Fin 5, (∀ l ∈ risL (n.1 + 1), l.filter (· < n.1) ∈ risL n.1 ∧ (l.filter (· < n.1)).length ≤ l.length) ∧ ∀ l ∈ risL n.1, l ++ [n.1] ∈ risL (n.1 + 1) := by decide +kernel
theorem plus_leave (hn : d.nc + 1 ≤ 5) {l m : List Nat} (hl : (risL d.nc).find? (leaveQ d.seen.E) = some l) (hm : (risL (d.nc + 1)).find? (leaveQ (d.plus k w lo hi).seen.E) = some m) : l.length ≤ m.length ∧ m.length ≤ l.length + 1 := by
  obtain ⟨r1, r2⟩ := ris_plus ⟨d.nc, by omega⟩
  obtain ⟨il, ql⟩ := find_in hl
  obtain ⟨im, qm⟩ := find_in hm
  have hq := fun l => leaveQ_iff (d := d) (by omega) l
  have hq2 := fun l => leaveQ_iff (d := d.plus k w lo hi) hn l
  have hin : ∀ t, (d.plus k w lo hi).inR t ↔ d.inR t := fun t => Iff.rfl
  constructor
  · obtain ⟨k1, k2⟩ := r1 m im
    refine Nat.le_trans (find_short (by omega) hl k1 ?_) k2
    obtain ⟨t, ht, h⟩ := (hq2 m).1 qm
    refine (hq _).2 ⟨t, ht, fun j hj hl => ?_⟩
    have := h j (Nat.lt_succ_of_lt hj) (fun hjm => hl (List.mem_filter.2 ⟨hjm, decide_eq_true hj⟩))
    rw [plus_okC d k w lo hi _ hj] at this
    exact this
  · have := find_short (by omega) hm (r2 l il) ?_
    · simpa using this
    obtain ⟨t, ht, h⟩ := (hq l).1 ql
    refine (hq2 _).2 ⟨t, ht, fun j hj hl => ?_⟩
    have h1 : ¬ j = d.nc := fun e => hl (by simp [e])
    have hj2 : j < d.nc := by
      have : j < d.nc + 1 := hj
      omega
    have := h j hj2 (fun hjm => hl (by simp [hjm]))
    show (d.plus k w lo hi).okC _ j = true
    rw [plus_okC d k w lo hi _ hj2]
    exact this
end
end Go.Fz
namespace Go.Fz
open Go.Proofs
set_option maxRecDepth 100000
theorem cntC_one (d : DayD) (i k : Nat) : (cntC d i k).one = true := by unfold cntC; split <;> rfl
def cnt1 (k w lo hi : Int) (j : Nat) : AV := match j with
  | 0 => iV k
  | 1 => iV w
  | 2 => iV lo
  | _ => iV hi
theorem cnt1_one (k w lo hi : Int) (j : Nat) : (cnt1 k w lo hi j).one = true := by unfold cnt1; split <;> rfl
theorem more_flat (d : DayD) (k w lo hi : Int) : flatG 4 (cntC d) d.nc ++ [iV k, iV w, iV lo, iV hi] = flatG 4 (cntC (d.plus k w lo hi)) (d.nc + 1) := by
  have h1 : flatG 4 (cntC (d.plus k w lo hi)) d.nc = flatG 4 (cntC d) d.nc := flatG_congr fun i j hi => by
    show (match j with | 0 => iV (if i < d.nc then d.ck i else _) | 1 => iV (if i < d.nc then d.cw i else _) | 2 => iV (if i < d.nc then d.clo i else _) | _ => iV (if i < d.nc then d.chi i else _)) = cntC d i j
    rw [if_pos hi, if_pos hi, if_pos hi, if_pos hi]; rfl
  show _ = flatG 4 (cntC (d.plus k w lo hi)) d.nc ++ [iV (if d.nc < d.nc then _ else k), iV (if d.nc < d.nc then _ else w), iV (if d.nc < d.nc then _ else lo), iV (if d.nc < d.nc then _ else hi)]
  have hn : ¬ d.nc < d.nc := Nat.lt_irrefl _
  rw [h1, if_neg hn, if_neg hn, if_neg hn, if_neg hn]
theorem append_noneZ {T : Ti} {t id sz n : Nat} {ex : Bool} {g : Nat → Nat → AV} {st : St} (hz : n = 0) (h : sliceB T t sz = true) (hx : st.h.get id = some (.cells none false [])) :
    appendA T st t t (.sl id 0 0 sz true) (.isl n sz ex g) = some (.sl id 0 0 sz true, st) := by
  subst hz
  exact append_none h hx
theorem append_emptyG {T : Ti} {t id sz n : Nat} {ex : Bool} {g : Nat → Nat → AV} {st : St} {G : List AV} (h : sliceB T t sz = true) (hx : st.h.get id = some (.cells none false [])) (hn : n < 1048576) (h0 : 0 < n) (hone : ∀ i k, (g i k).one = true) (hG : G = flatG sz g n) :
    appendA T st t t (.sl id 0 0 sz true) (.isl n sz ex g) = some (.sl st.n 0 n sz false, st.push (.cells none false G)) := by
  subst hG
  exact append_empty h hx hn h0 hone
section
variable {T : Ti}
theorem append_emptyM {t id id2 sz n : Nat} {ex : Bool} {g : Nat → Nat → AV} {G : List AV} {st : St} {fm : Option Nat} {ro : Bool} (h : sliceB T t sz = true) (hx : st.h.get id = some (.cells none false [])) (hy : st.h.get id2 = some (.cells fm ro G)) (hG : G = flatG sz g n)
    (hn : n < 1048576) (h0 : 0 < n) (hone : ∀ i k, (g i k).one = true) :
    appendA T st t t (.sl id 0 0 sz true) (.sl id2 0 n sz ex) = some (.sl st.n 0 n sz false, st.push (.cells none false G)) := by
  have hc : slCells st.h sz (.sl id2 0 n sz ex) = slCells st.h sz (.isl n sz ex g) := by
    obtain ⟨i, j, e, h1, h2, h3, h4, h5, h6, h7, h8⟩ := sliceB_ok h
    subst h4
    simp only [slCells, cellsAt, hy, hG]
    rw [if_pos ⟨trivial, by rw [flatG_length]; omega⟩, if_pos ⟨trivial, h5⟩, List.drop_zero, List.take_of_length_le (by rw [flatG_length]; omega)]
  rw [hG]
  have := append_empty (ex := ex) h hx hn h0 hone
  unfold appendA at this ⊢
  obtain ⟨i, j, e, h1, h2, h3, h4, h5, h6, h7, h8⟩ := sliceB_ok h
  subst h4
  simp only [h1, h2, h3, slLen] at this ⊢
  rw [hc]
  exact this
end
def moS (d : DayD) (cl : List AV) (h : Hp) (XC : AV) (n : Nat) : St := ⟨h ++ [(2, .cells none false [iV d.hand, iV d.flat, womsV d, lotsV d, XC]), (1, .cells none false cl), (0, .cells none false (dayC d))], n⟩
def moL (x0 x1 : Int) : List (Nat × AV) := [(2, .lit (.int .u8 x0)), (3, .lit (.int .u8 x1)), (4, .ptr 0 0), (5, .ptr 1 0), (9, .ptr 2 0)]
theorem WeakR.tabM {n0 m : Nat} {tb : List (Nat × Nat)} {f1 : Fm} {st1 : St} {l : List (Nat × AV)} {len : Nat} {dm : List Nat} {h2 : Hp} {n2 : Nat} (e1 : len = f1.ts.len) (e2 : dm = f1.dm) (e3 : ∀ id ∈ dm, id < n0) (hid : (tb.all fun p => Nat.ble n0 p.1) = true) (lo : n0 ≤ n2)
    (hinj : (h2.all fun p => h2.all fun q => !(Nat.beq (tabR tb p.1) (tabR tb q.1)) || Nat.beq p.1 q.1) = true)
    (get : AllP (fun p => RenV (tabR tb) n2 p.2 (f1.ts.get p.1)) l) (obj : AllP (fun p => p.1 < n2 ∧ ∃ o1, st1.h.get (tabR tb p.1) = some o1 ∧ RenO (tabR tb) n2 p.2 o1 ∧ (p.1 = m ∨ o1.fam = none)) h2) : WeakR n0 (tabR tb) f1 st1 ⟨⟨len, getT l⟩, dm⟩ ⟨h2, n2⟩ := by
  refine WeakR.of (m := m) e1 e2 e3 (tabR_id hid) lo (fun p hp => get.ok p hp) (fun p hp => ?_) (inj_of hinj)
  obtain ⟨h1, o1, h3, h4, h5⟩ := obj.ok p hp
  exact ⟨h1, o1, h3, h4, h5⟩
set_option maxHeartbeats 16000000 in
theorem more_s2z (d : DayD) (k w lo hi x0 x1 : Int) (h0 : d.nc = 0) (g : Nat → AV) (h : AllP (fun p => g p.1 = p.2) (moL x0 x1)) :
    SW Try.prog none (nthC 2 (bodyF Try.f10)) (midK 195 (moL x0 x1) (moS d [iV k, iV w, iV lo, iV hi] [(3, .cells none false [iV k, iV w, iV lo, iV hi])] (.sl 3 0 1 4 false) 4))
      ⟨⟨195, g⟩, []⟩ (moS d [iV k, iV w, iV lo, iV hi] [] (cntsV d) 3) := by
  obtain ⟨O, hO⟩ : ∃ O : Ar, O = std := ⟨_, rfl⟩
  obtain ⟨g2, g3, g4, g5, g9, _⟩ := h
  simp only at g2 g3 g4 g5 g9
  rw [← updT_self g2, ← updT_self g3, ← updT_self g4, ← updT_self g5, ← updT_self g9]
  have hGb : ∀ a ∈ [iV k, iV w, iV lo, iV hi], Below 0 a := AllB.ok ⟨Below.lit, Below.lit, Below.lit, Below.lit, trivial⟩
  refine SW.ren ?_
  refine SW.runD tok mixed hO (by kernel_rfl) (by cbv <;> rfl) (by trivial) ?_
  refine AnyE.many [0, 5] (by cbv <;> rfl) (by rfl) ⟨?_, ?_, trivial⟩
  · refine PickE.eff tok hO (by cbv <;> rfl) (by cbv <;> rfl) (by trivial) ?_ ?_
    · exact (by repeat (first | exact trivial | refine And.intro (by first | exact lv_of hO (by cbv <;> rfl) (by trivial) | (cbv <;> rfl)) ?_))
    refine AnyE.run tok hO (by rfl) (by cbv <;> rfl) (by trivial) ?_
    refine AnyE.many [3, 5] (by cbv <;> rfl) (by rfl) ⟨?_, ?_, trivial⟩
    · refine PickE.app tok (by cbv <;> rfl) (by cbv <;> rfl) (append_noneZ h0 (by kernel_rfl) (by rfl)) ?_ ?_
      · exact (by repeat (first | exact trivial | refine And.intro (by first | exact lv_of hO (by cbv <;> rfl) (by trivial) | (cbv <;> rfl)) ?_))
      refine AnyE.run tok hO (by rfl) (by cbv <;> rfl) (by trivial) ?_
      refine AnyE.effK tok hO (by cbv <;> rfl) (by cbv <;> rfl) (by trivial) ?_ ?_
      · exact (by repeat (first | exact trivial | refine And.intro (by first | exact lv_of hO (by cbv <;> rfl) (by trivial) | (cbv <;> rfl)) ?_))
      refine AnyE.run tok hO (by rfl) (by cbv <;> rfl) (by trivial) ?_
      refine AnyE.appK tok (by cbv <;> rfl) (by cbv <;> rfl) (append_emptyM (G := [iV k, iV w, iV lo, iV hi]) (g := fun _ => cnt1 k w lo hi) (by kernel_rfl) (by rfl) (by rfl) (by rfl) (by omega) (by omega) (fun i j => cnt1_one k w lo hi j)) ?_ ?_
      · exact (by repeat (first | exact trivial | refine And.intro (by first | exact lv_of hO (by cbv <;> rfl) (by trivial) | (cbv <;> rfl)) ?_))
      refine AnyE.run tok hO (by rfl) (by cbv <;> rfl) (by trivial) ?_
      refine AnyE.effK tok hO (by cbv <;> rfl) (by cbv <;> rfl) (by trivial) ?_ ?_
      · exact (by repeat (first | exact trivial | refine And.intro (by first | exact lv_of hO (by cbv <;> rfl) (by trivial) | (cbv <;> rfl)) ?_))
      refine AnyE.run tok hO (by rfl) (by cbv <;> rfl) (by trivial) ?_
      refine ⟨tabR [(3, 5)], ⟨⟨195, getT (moL x0 x1)⟩, []⟩, moS d [iV k, iV w, iV lo, iV hi] [(3, .cells none false [iV k, iV w, iV lo, iV hi])] (.sl 3 0 1 4 false) 4, ?_, rfl, _, rfl, ⟨rfl, rfl, rfl, rfl, rfl, trivial⟩, rfl⟩
      refine WeakR.tabM (m := 3) rfl rfl (by simp) (by rfl) (by show 3 ≤ 4; omega) (by rfl) ⟨RenV.closed Below.lit, RenV.closed Below.lit, RenV.ptr (by omega), RenV.ptr (by omega), RenV.ptr (by omega), trivial⟩ ⟨⟨by omega, _, rfl, .cells (RenVs.of_eq rfl hGb), .inl rfl⟩, ⟨by omega, _, rfl, .cells (.cons (RenV.closed Below.lit) (.cons (RenV.closed Below.lit) (.cons (RenV.closed (womsV_below d)) (.cons (RenV.closed (lotsV_below d)) (.cons (RenV.sl (by omega)) .nil))))), .inr rfl⟩, ⟨by omega, _, rfl, .cells (RenVs.closed (AllB.ok ⟨Below.lit, Below.lit, Below.lit, Below.lit, trivial⟩)), .inr rfl⟩, ⟨by omega, _, rfl, .cells (RenVs.closed (dayC_below d)), .inr rfl⟩, trivial⟩
    · refine PickE.eff tok hO (by cbv <;> rfl) (by cbv <;> rfl) (by trivial) ?_ ?_
      · exact (by repeat (first | exact trivial | refine And.intro (by first | exact lv_of hO (by cbv <;> rfl) (by trivial) | (cbv <;> rfl)) ?_))
      refine AnyE.run tok hO (by rfl) (by cbv <;> rfl) (by trivial) ?_
      refine AnyE.appK tok (by cbv <;> rfl) (by cbv <;> rfl) (append_noneZ h0 (by kernel_rfl) (by rfl)) ?_ ?_
      · exact (by repeat (first | exact trivial | refine And.intro (by first | exact lv_of hO (by cbv <;> rfl) (by trivial) | (cbv <;> rfl)) ?_))
      refine AnyE.run tok hO (by rfl) (by cbv <;> rfl) (by trivial) ?_
      refine AnyE.appK tok (by cbv <;> rfl) (by cbv <;> rfl) (append_emptyM (G := [iV k, iV w, iV lo, iV hi]) (g := fun _ => cnt1 k w lo hi) (by kernel_rfl) (by rfl) (by rfl) (by rfl) (by omega) (by omega) (fun i j => cnt1_one k w lo hi j)) ?_ ?_
      · exact (by repeat (first | exact trivial | refine And.intro (by first | exact lv_of hO (by cbv <;> rfl) (by trivial) | (cbv <;> rfl)) ?_))
      refine AnyE.run tok hO (by rfl) (by cbv <;> rfl) (by trivial) ?_
      refine AnyE.effK tok hO (by cbv <;> rfl) (by cbv <;> rfl) (by trivial) ?_ ?_
      · exact (by repeat (first | exact trivial | refine And.intro (by first | exact lv_of hO (by cbv <;> rfl) (by trivial) | (cbv <;> rfl)) ?_))
      refine AnyE.run tok hO (by rfl) (by cbv <;> rfl) (by trivial) ?_
      refine ⟨tabR [(3, 5)], ⟨⟨195, getT (moL x0 x1)⟩, []⟩, moS d [iV k, iV w, iV lo, iV hi] [(3, .cells none false [iV k, iV w, iV lo, iV hi])] (.sl 3 0 1 4 false) 4, ?_, rfl, _, rfl, ⟨rfl, rfl, rfl, rfl, rfl, trivial⟩, rfl⟩
      refine WeakR.tabM (m := 3) rfl rfl (by simp) (by rfl) (by show 3 ≤ 4; omega) (by rfl) ⟨RenV.closed Below.lit, RenV.closed Below.lit, RenV.ptr (by omega), RenV.ptr (by omega), RenV.ptr (by omega), trivial⟩ ⟨⟨by omega, _, rfl, .cells (RenVs.of_eq rfl hGb), .inl rfl⟩, ⟨by omega, _, rfl, .cells (.cons (RenV.closed Below.lit) (.cons (RenV.closed Below.lit) (.cons (RenV.closed (womsV_below d)) (.cons (RenV.closed (lotsV_below d)) (.cons (RenV.sl (by omega)) .nil))))), .inr rfl⟩, ⟨by omega, _, rfl, .cells (RenVs.closed (AllB.ok ⟨Below.lit, Below.lit, Below.lit, Below.lit, trivial⟩)), .inr rfl⟩, ⟨by omega, _, rfl, .cells (RenVs.closed (dayC_below d)), .inr rfl⟩, trivial⟩
  · refine PickE.eff tok hO (by cbv <;> rfl) (by cbv <;> rfl) (by trivial) ?_ ?_
    · exact (by repeat (first | exact trivial | refine And.intro (by first | exact lv_of hO (by cbv <;> rfl) (by trivial) | (cbv <;> rfl)) ?_))
    refine AnyE.run tok hO (by rfl) (by cbv <;> rfl) (by trivial) ?_
    refine AnyE.effK tok hO (by cbv <;> rfl) (by cbv <;> rfl) (by trivial) ?_ ?_
    · exact (by repeat (first | exact trivial | refine And.intro (by first | exact lv_of hO (by cbv <;> rfl) (by trivial) | (cbv <;> rfl)) ?_))
    refine AnyE.run tok hO (by rfl) (by cbv <;> rfl) (by trivial) ?_
    refine AnyE.appK tok (by cbv <;> rfl) (by cbv <;> rfl) (append_noneZ h0 (by kernel_rfl) (by rfl)) ?_ ?_
    · exact (by repeat (first | exact trivial | refine And.intro (by first | exact lv_of hO (by cbv <;> rfl) (by trivial) | (cbv <;> rfl)) ?_))
    refine AnyE.run tok hO (by rfl) (by cbv <;> rfl) (by trivial) ?_
    refine AnyE.appK tok (by cbv <;> rfl) (by cbv <;> rfl) (append_emptyM (G := [iV k, iV w, iV lo, iV hi]) (g := fun _ => cnt1 k w lo hi) (by kernel_rfl) (by rfl) (by rfl) (by rfl) (by omega) (by omega) (fun i j => cnt1_one k w lo hi j)) ?_ ?_
    · exact (by repeat (first | exact trivial | refine And.intro (by first | exact lv_of hO (by cbv <;> rfl) (by trivial) | (cbv <;> rfl)) ?_))
    refine AnyE.run tok hO (by rfl) (by cbv <;> rfl) (by trivial) ?_
    refine AnyE.effK tok hO (by cbv <;> rfl) (by cbv <;> rfl) (by trivial) ?_ ?_
    · exact (by repeat (first | exact trivial | refine And.intro (by first | exact lv_of hO (by cbv <;> rfl) (by trivial) | (cbv <;> rfl)) ?_))
    refine AnyE.run tok hO (by rfl) (by cbv <;> rfl) (by trivial) ?_
    refine ⟨tabR [(3, 5)], ⟨⟨195, getT (moL x0 x1)⟩, []⟩, moS d [iV k, iV w, iV lo, iV hi] [(3, .cells none false [iV k, iV w, iV lo, iV hi])] (.sl 3 0 1 4 false) 4, ?_, rfl, _, rfl, ⟨rfl, rfl, rfl, rfl, rfl, trivial⟩, rfl⟩
    refine WeakR.tabM (m := 3) rfl rfl (by simp) (by rfl) (by show 3 ≤ 4; omega) (by rfl) ⟨RenV.closed Below.lit, RenV.closed Below.lit, RenV.ptr (by omega), RenV.ptr (by omega), RenV.ptr (by omega), trivial⟩ ⟨⟨by omega, _, rfl, .cells (RenVs.of_eq rfl hGb), .inl rfl⟩, ⟨by omega, _, rfl, .cells (.cons (RenV.closed Below.lit) (.cons (RenV.closed Below.lit) (.cons (RenV.closed (womsV_below d)) (.cons (RenV.closed (lotsV_below d)) (.cons (RenV.sl (by omega)) .nil))))), .inr rfl⟩, ⟨by omega, _, rfl, .cells (RenVs.closed (AllB.ok ⟨Below.lit, Below.lit, Below.lit, Below.lit, trivial⟩)), .inr rfl⟩, ⟨by omega, _, rfl, .cells (RenVs.closed (dayC_below d)), .inr rfl⟩, trivial⟩
set_option maxHeartbeats 16000000 in
theorem more_s2 (d : DayD) (k w lo hi x0 x1 : Int) (h0 : 0 < d.nc) (hnc : d.nc < 1048576) (g : Nat → AV) (h : AllP (fun p => g p.1 = p.2) (moL x0 x1)) :
    SW Try.prog none (nthC 2 (bodyF Try.f10)) (midK 195 (moL x0 x1) (moS d [iV k, iV w, iV lo, iV hi] [(3, .cells none false (flatG 4 (cntC (d.plus k w lo hi)) (d.nc + 1)))] (.sl 3 0 (d.nc + 1) 4 false) 4))
      ⟨⟨195, g⟩, []⟩ (moS d [iV k, iV w, iV lo, iV hi] [] (cntsV d) 3) := by
  obtain ⟨O, hO⟩ : ∃ O : Ar, O = std := ⟨_, rfl⟩
  obtain ⟨g2, g3, g4, g5, g9, _⟩ := h
  simp only at g2 g3 g4 g5 g9
  rw [← updT_self g2, ← updT_self g3, ← updT_self g4, ← updT_self g5, ← updT_self g9]
  obtain ⟨GC, hGC⟩ : ∃ G, G = flatG 4 (cntC d) d.nc := ⟨_, rfl⟩
  refine SW.ren ?_
  refine SW.runD tok mixed hO (by kernel_rfl) (by cbv <;> rfl) (by trivial) ?_
  refine AnyE.many [0, 5] (by cbv <;> rfl) (by rfl) ⟨?_, ?_, trivial⟩
  · refine PickE.eff tok hO (by cbv <;> rfl) (by cbv <;> rfl) (by trivial) ?_ ?_
    · exact (by repeat (first | exact trivial | refine And.intro (by first | exact lv_of hO (by cbv <;> rfl) (by trivial) | (cbv <;> rfl)) ?_))
    refine AnyE.run tok hO (by rfl) (by cbv <;> rfl) (by trivial) ?_
    refine AnyE.many [3, 5] (by cbv <;> rfl) (by rfl) ⟨?_, ?_, trivial⟩
    · refine PickE.app tok (by cbv <;> rfl) (by cbv <;> rfl) (append_emptyG (by kernel_rfl) (by rfl) hnc h0 (fun i k => cntC_one d i k) hGC) ?_ ?_
      · exact (by repeat (first | exact trivial | refine And.intro (by first | exact lv_of hO (by cbv <;> rfl) (by trivial) | (cbv <;> rfl)) ?_))
      refine AnyE.run tok hO (by rfl) (by cbv <;> rfl) (by trivial) ?_
      refine AnyE.effK tok hO (by cbv <;> rfl) (by cbv <;> rfl) (by trivial) ?_ ?_
      · exact (by repeat (first | exact trivial | refine And.intro (by first | exact lv_of hO (by cbv <;> rfl) (by trivial) | (cbv <;> rfl)) ?_))
      refine AnyE.run tok hO (by rfl) (by cbv <;> rfl) (by trivial) ?_
      refine AnyE.appOneK tok (by cbv <;> rfl) (by cbv <;> rfl) (by rfl) (by rfl) hGC (by kernel_rfl) (by rfl) (by rfl) hnc (fun G' hG' => ⟨?_, ?_⟩)
      · exact (by repeat (first | exact trivial | refine And.intro (by first | exact lv_of hO (by cbv <;> rfl) (by trivial) | (cbv <;> rfl)) ?_))
      refine AnyE.run tok hO (by rfl) (by cbv <;> rfl) (by trivial) ?_
      have hG' := hG'.trans (more_flat d k w lo hi)
      refine AnyE.effK tok hO (by cbv <;> rfl) (by cbv <;> rfl) (by trivial) ?_ ?_
      · exact (by repeat (first | exact trivial | refine And.intro (by first | exact lv_of hO (by cbv <;> rfl) (by trivial) | (cbv <;> rfl)) ?_))
      refine AnyE.run tok hO (by rfl) (by cbv <;> rfl) (by trivial) ?_
      rw [← hG']
      have hGb : ∀ a ∈ G', Below 0 a := by rw [hG']; exact flatG_below (fun i j => by unfold cntC; split <;> exact Below.lit) _
      refine ⟨tabR [(3, 6)], ⟨⟨195, getT (moL x0 x1)⟩, []⟩, moS d [iV k, iV w, iV lo, iV hi] [(3, .cells none false G')] (.sl 3 0 (d.nc + 1) 4 false) 4, ?_, rfl, _, rfl, ⟨rfl, rfl, rfl, rfl, rfl, trivial⟩, rfl⟩
      refine WeakR.tabM (m := 3) rfl rfl (by simp) (by rfl) (by show 3 ≤ 4; omega) (by rfl) ⟨RenV.closed Below.lit, RenV.closed Below.lit, RenV.ptr (by omega), RenV.ptr (by omega), RenV.ptr (by omega), trivial⟩ ⟨⟨by omega, _, rfl, .cells (RenVs.of_eq rfl hGb), .inl rfl⟩, ⟨by omega, _, rfl, .cells (.cons (RenV.closed Below.lit) (.cons (RenV.closed Below.lit) (.cons (RenV.closed (womsV_below d)) (.cons (RenV.closed (lotsV_below d)) (.cons (RenV.sl (by omega)) .nil))))), .inr rfl⟩, ⟨by omega, _, rfl, .cells (RenVs.closed (AllB.ok ⟨Below.lit, Below.lit, Below.lit, Below.lit, trivial⟩)), .inr rfl⟩, ⟨by omega, _, rfl, .cells (RenVs.closed (dayC_below d)), .inr rfl⟩, trivial⟩
    · refine PickE.eff tok hO (by cbv <;> rfl) (by cbv <;> rfl) (by trivial) ?_ ?_
      · exact (by repeat (first | exact trivial | refine And.intro (by first | exact lv_of hO (by cbv <;> rfl) (by trivial) | (cbv <;> rfl)) ?_))
      refine AnyE.run tok hO (by rfl) (by cbv <;> rfl) (by trivial) ?_
      refine AnyE.appK tok (by cbv <;> rfl) (by cbv <;> rfl) (append_emptyG (by kernel_rfl) (by rfl) hnc h0 (fun i k => cntC_one d i k) hGC) ?_ ?_
      · exact (by repeat (first | exact trivial | refine And.intro (by first | exact lv_of hO (by cbv <;> rfl) (by trivial) | (cbv <;> rfl)) ?_))
      refine AnyE.run tok hO (by rfl) (by cbv <;> rfl) (by trivial) ?_
      refine AnyE.appOneK tok (by cbv <;> rfl) (by cbv <;> rfl) (by rfl) (by rfl) hGC (by kernel_rfl) (by rfl) (by rfl) hnc (fun G' hG' => ⟨?_, ?_⟩)
      · exact (by repeat (first | exact trivial | refine And.intro (by first | exact lv_of hO (by cbv <;> rfl) (by trivial) | (cbv <;> rfl)) ?_))
      refine AnyE.run tok hO (by rfl) (by cbv <;> rfl) (by trivial) ?_
      have hG' := hG'.trans (more_flat d k w lo hi)
      refine AnyE.effK tok hO (by cbv <;> rfl) (by cbv <;> rfl) (by trivial) ?_ ?_
      · exact (by repeat (first | exact trivial | refine And.intro (by first | exact lv_of hO (by cbv <;> rfl) (by trivial) | (cbv <;> rfl)) ?_))
      refine AnyE.run tok hO (by rfl) (by cbv <;> rfl) (by trivial) ?_
      rw [← hG']
      have hGb : ∀ a ∈ G', Below 0 a := by rw [hG']; exact flatG_below (fun i j => by unfold cntC; split <;> exact Below.lit) _
      refine ⟨tabR [(3, 6)], ⟨⟨195, getT (moL x0 x1)⟩, []⟩, moS d [iV k, iV w, iV lo, iV hi] [(3, .cells none false G')] (.sl 3 0 (d.nc + 1) 4 false) 4, ?_, rfl, _, rfl, ⟨rfl, rfl, rfl, rfl, rfl, trivial⟩, rfl⟩
      refine WeakR.tabM (m := 3) rfl rfl (by simp) (by rfl) (by show 3 ≤ 4; omega) (by rfl) ⟨RenV.closed Below.lit, RenV.closed Below.lit, RenV.ptr (by omega), RenV.ptr (by omega), RenV.ptr (by omega), trivial⟩ ⟨⟨by omega, _, rfl, .cells (RenVs.of_eq rfl hGb), .inl rfl⟩, ⟨by omega, _, rfl, .cells (.cons (RenV.closed Below.lit) (.cons (RenV.closed Below.lit) (.cons (RenV.closed (womsV_below d)) (.cons (RenV.closed (lotsV_below d)) (.cons (RenV.sl (by omega)) .nil))))), .inr rfl⟩, ⟨by omega, _, rfl, .cells (RenVs.closed (AllB.ok ⟨Below.lit, Below.lit, Below.lit, Below.lit, trivial⟩)), .inr rfl⟩, ⟨by omega, _, rfl, .cells (RenVs.closed (dayC_below d)), .inr rfl⟩, trivial⟩
  · refine PickE.eff tok hO (by cbv <;> rfl) (by cbv <;> rfl) (by trivial) ?_ ?_
    · exact (by repeat (first | exact trivial | refine And.intro (by first | exact lv_of hO (by cbv <;> rfl) (by trivial) | (cbv <;> rfl)) ?_))
    refine AnyE.run tok hO (by rfl) (by cbv <;> rfl) (by trivial) ?_
    refine AnyE.effK tok hO (by cbv <;> rfl) (by cbv <;> rfl) (by trivial) ?_ ?_
    · exact (by repeat (first | exact trivial | refine And.intro (by first | exact lv_of hO (by cbv <;> rfl) (by trivial) | (cbv <;> rfl)) ?_))
    refine AnyE.run tok hO (by rfl) (by cbv <;> rfl) (by trivial) ?_
    refine AnyE.appK tok (by cbv <;> rfl) (by cbv <;> rfl) (append_emptyG (by kernel_rfl) (by rfl) hnc h0 (fun i k => cntC_one d i k) hGC) ?_ ?_
    · exact (by repeat (first | exact trivial | refine And.intro (by first | exact lv_of hO (by cbv <;> rfl) (by trivial) | (cbv <;> rfl)) ?_))
    refine AnyE.run tok hO (by rfl) (by cbv <;> rfl) (by trivial) ?_
    refine AnyE.appOneK tok (by cbv <;> rfl) (by cbv <;> rfl) (by rfl) (by rfl) hGC (by kernel_rfl) (by rfl) (by rfl) hnc (fun G' hG' => ⟨?_, ?_⟩)
    · exact (by repeat (first | exact trivial | refine And.intro (by first | exact lv_of hO (by cbv <;> rfl) (by trivial) | (cbv <;> rfl)) ?_))
    refine AnyE.run tok hO (by rfl) (by cbv <;> rfl) (by trivial) ?_
    have hG' := hG'.trans (more_flat d k w lo hi)
    refine AnyE.effK tok hO (by cbv <;> rfl) (by cbv <;> rfl) (by trivial) ?_ ?_
    · exact (by repeat (first | exact trivial | refine And.intro (by first | exact lv_of hO (by cbv <;> rfl) (by trivial) | (cbv <;> rfl)) ?_))
    refine AnyE.run tok hO (by rfl) (by cbv <;> rfl) (by trivial) ?_
    rw [← hG']
    have hGb : ∀ a ∈ G', Below 0 a := by rw [hG']; exact flatG_below (fun i j => by unfold cntC; split <;> exact Below.lit) _
    refine ⟨tabR [(3, 6)], ⟨⟨195, getT (moL x0 x1)⟩, []⟩, moS d [iV k, iV w, iV lo, iV hi] [(3, .cells none false G')] (.sl 3 0 (d.nc + 1) 4 false) 4, ?_, rfl, _, rfl, ⟨rfl, rfl, rfl, rfl, rfl, trivial⟩, rfl⟩
    refine WeakR.tabM (m := 3) rfl rfl (by simp) (by rfl) (by show 3 ≤ 4; omega) (by rfl) ⟨RenV.closed Below.lit, RenV.closed Below.lit, RenV.ptr (by omega), RenV.ptr (by omega), RenV.ptr (by omega), trivial⟩ ⟨⟨by omega, _, rfl, .cells (RenVs.of_eq rfl hGb), .inl rfl⟩, ⟨by omega, _, rfl, .cells (.cons (RenV.closed Below.lit) (.cons (RenV.closed Below.lit) (.cons (RenV.closed (womsV_below d)) (.cons (RenV.closed (lotsV_below d)) (.cons (RenV.sl (by omega)) .nil))))), .inr rfl⟩, ⟨by omega, _, rfl, .cells (RenVs.closed (AllB.ok ⟨Below.lit, Below.lit, Below.lit, Below.lit, trivial⟩)), .inr rfl⟩, ⟨by omega, _, rfl, .cells (RenVs.closed (dayC_below d)), .inr rfl⟩, trivial⟩
end Go.Fz
