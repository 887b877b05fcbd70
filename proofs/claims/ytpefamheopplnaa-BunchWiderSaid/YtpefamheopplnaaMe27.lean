/- Own work of the verifier of watercress: FzH1, FzH2, FzH3, FzO1, FzO4, FzW1, FzW4, FzO2, FzW3, FzO5a, FzF1, FzO5, FzW5. -/
import Derived.Test.YtpefamheopplnaaMe25
import Derived.Test.YtpefamheopplnaaMe26
import Derived.Test.YtpefamheopplnaaMe20
import Derived.Test.YtpefamheopplnaaMe18
import Derived.Test.YtpefamheopplnaaMe23
set_option linter.unusedVariables false
set_option linter.unusedSimpArgs false
namespace Go.Fz
open Go.Proofs
set_option maxRecDepth 100000
def befF (fa fb : Nat → Int) (na nb : Nat) : Nat → Nat → Bool
  | _, 0 => decide ((na : Int) < nb)
  | i, k + 1 => if i < na ∧ i < nb then (if fa i = fb i then befF fa fb na nb (i + 1) k else decide (fa i < fb i)) else decide ((na : Int) < nb)
set_option pp.deepTerms false
set_option pp.deepTerms.threshold 5
def shortB (na nb : Nat) (fa fb : Nat → Int) : Bool := decide ((na : Int) < nb) || (decide ((na : Int) = nb) && befF fa fb na nb 0 (na + 1))
end Go.Fz
namespace Go.Fz
open Go.Proofs
set_option maxRecDepth 100000
def lI (l : List Nat) (i : Nat) : Int := ((l.getD i 0 : Nat) : Int)
end Go.Fz
namespace Go.Fz
open Go.Proofs
set_option maxRecDepth 100000
def shL (a b : List Nat) : Bool := shortB a.length b.length (lI a) (lI b)
theorem ord_fin : ∀ many : Fin 6, (risL many.1).Pairwise (fun x y => shL y x = false) ∧ (∀ l ∈ risL many.1, shL l l = false) ∧ List.range many.1 ∈ risL many.1 := by
  decide +kernel
theorem ris_before {many : Nat} (hm : many ≤ 5) {pre post : List (List Nat)} {l a : List Nat} (hE : risL many = pre ++ l :: post) (ha : a ∈ risL many) (hs : shL a l = true) : a ∈ pre := by
  obtain ⟨h1, h2, _⟩ := ord_fin ⟨many, by omega⟩
  simp only at h1 h2
  have hl := h2 l (by rw [hE]; simp)
  rw [hE] at h1 ha
  rcases List.mem_append.1 ha with ha | ha
  · exact ha
  · rcases List.mem_cons.1 ha with rfl | ha
    · rw [hl] at hs; cases hs
    · have := (List.pairwise_append.1 h1).2.1
      have := (List.pairwise_cons.1 this).1 a ha
      rw [this] at hs; cases hs
theorem hasN_lI (l : List Nat) (i : Nat) : hasN l.length (lI l) (i : Int) = decide (i ∈ l) := by
  unfold hasN
  refine decide_eq_decide.2 ⟨fun ⟨k, hk, h⟩ => ?_, fun h => ?_⟩
  · unfold lI at h
    have : l.getD k 0 = i := by omega
    rw [← this, List.getD_eq_getElem?_getD, List.getElem?_eq_getElem hk]
    exact List.getElem_mem hk
  · obtain ⟨k, hk, h⟩ := List.getElem_of_mem h
    exact ⟨k, hk, by unfold lI; rw [List.getD_eq_getElem?_getD, List.getElem?_eq_getElem hk, Option.getD_some, h]⟩
theorem mkB_wrong {d : DayD} (f : Nat → Int) {j : Nat} (hj : j < 5) : mkB (wrongOf d f) j = wrM (d.okC f) d.nc j := by
  match j, hj with
  | 0, _ | 1, _ | 2, _ | 3, _ | 4, _ => rfl
theorem within_wrong {d : DayD} (hn : d.nc ≤ 5) (f : Nat → Int) (l : List Nat) : withinL (wrongOf d f) l.length (lI l) = true ↔ ∀ j, j < d.nc → j ∉ l → d.okC f j = true := by
  unfold withinL
  simp only [allN, decide_eq_true_eq, Bool.or_eq_true, Bool.not_eq_true']
  constructor
  · intro h j hj hl
    have h1 := h j (by omega)
    rw [mkB_wrong f (by omega), hasN_lI] at h1
    rcases h1 with h1 | h1
    · unfold wrM at h1
      cases hr : d.okC f j with
      | true => rfl
      | false => rw [hr] at h1; simp [hj] at h1
    · exact absurd (of_decide_eq_true h1) hl
  · intro h j hj
    rw [mkB_wrong f hj, hasN_lI]
    by_cases hl : j ∈ l
    · exact .inr (decide_eq_true hl)
    · refine .inl ?_
      unfold wrM
      by_cases hjn : j < d.nc
      · rw [h j hjn hl]; simp
      · simp [hjn]
theorem leaveQ_iff {d : DayD} (hn : d.nc ≤ 5) (l : List Nat) : leaveQ d.seen.E l = true ↔ ∃ t, d.inR t ∧ ∀ j, j < d.nc → j ∉ l → d.okC (cutF (d.nw + d.nl) t) j = true := by
  unfold leaveQ
  rw [List.any_eq_true]
  constructor
  · rintro ⟨p, hp, h⟩
    obtain ⟨t, h1, h2⟩ := (seen_key d p.1).1 (List.mem_map.2 ⟨p, hp, rfl⟩)
    rw [← h2] at h
    exact ⟨t, h1, (within_wrong hn _ l).1 h⟩
  · rintro ⟨t, h1, h2⟩
    obtain ⟨p, hp, h3⟩ := List.mem_map.1 ((seen_key d _).2 ⟨t, h1, rfl⟩)
    exact ⟨p, hp, by rw [h3]; exact (within_wrong hn _ l).2 h2⟩
theorem left_found {d : DayD} (hc : d.check = 0) (hn : d.nc ≤ 5) : ∃ pre l post, risL d.nc = pre ++ l :: post ∧ (∀ l' ∈ pre, leaveQ d.seen.E l' = false) ∧ leaveQ d.seen.E l = true ∧ leaveV d.seen.E d.nc = lsV l := by
  have hr : List.range d.nc ∈ risL d.nc := (ord_fin ⟨d.nc, by omega⟩).2.2
  have hq : leaveQ d.seen.E (List.range d.nc) = true := by
    have g := unk_in (good_of_check hc)
    refine (leaveQ_iff hn _).2 ⟨d.ulo, fun m hm => ⟨Int.le_refl _, (g m hm).2.1⟩, fun j hj hl => absurd (List.mem_range.2 hj) hl⟩
  obtain ⟨l, hf⟩ : ∃ l, (risL d.nc).find? (leaveQ d.seen.E) = some l := by
    cases h : (risL d.nc).find? (leaveQ d.seen.E) with
    | some l => exact ⟨l, rfl⟩
    | none =>
      have := List.find?_eq_none.1 h _ hr
      rw [hq] at this
      exact absurd rfl this
  obtain ⟨hl, pre, post, hE, hpre⟩ := List.find?_eq_some_iff_append.1 hf
  refine ⟨pre, l, post, hE, fun l' hl' => by simpa using hpre l' hl', hl, ?_⟩
  unfold leaveV
  rw [hf]
end Go.Fz
namespace Go.Fz
open Go.Proofs
set_option maxRecDepth 100000
theorem mem_nth {l : List (Nat → Int)} {f : Nat → Int} (h : f ∈ l) : ∃ i, i < l.length ∧ nthF l i = f := by
  obtain ⟨i, hi, e⟩ := List.getElem_of_mem h
  exact ⟨i, hi, by unfold nthF; rw [List.getD_eq_getElem?_getD, List.getElem?_eq_getElem hi]; exact e⟩
theorem len_pos {α : Type} {l : List α} (h : l ≠ []) : 0 < l.length := by
  cases l with
  | nil => exact absurd rfl h
  | cons a l => simp
theorem ends_sub {A B : List (Nat → Int)} (hsub : ∀ f, f ∈ A → f ∈ B) (hne : A ≠ []) (V W : (Nat → Int) → Int) (h : ∀ f, V f = W f) :
    mnF (fun i => W (nthF B i)) B.length ≤ mnF (fun i => V (nthF A i)) A.length ∧ mxF (fun i => V (nthF A i)) A.length ≤ mxF (fun i => W (nthF B i)) B.length := by
  have h0 := len_pos hne
  constructor
  · obtain ⟨i, hi, e⟩ := mnF_mem (V := fun i => V (nthF A i)) h0
    obtain ⟨j, hj, e2⟩ := mem_nth (hsub _ (nth_mem hi))
    rw [← e]
    show _ ≤ V (nthF A i)
    rw [← e2, h]
    exact mnF_le (V := fun i => W (nthF B i)) hj
  · obtain ⟨i, hi, e⟩ := mxF_mem (V := fun i => V (nthF A i)) h0
    obtain ⟨j, hj, e2⟩ := mem_nth (hsub _ (nth_mem hi))
    rw [← e]
    show V (nthF A i) ≤ _
    rw [← e2, h]
    exact mxF_ge (V := fun i => W (nthF B i)) hj
structure Alike (A B : DayD) : Prop where
  hand : A.hand = B.hand
  flat : A.flat = B.flat
  nw : A.nw = B.nw
  nl : A.nl = B.nl
  lw : A.lw = B.lw
theorem Alike.stem {A B : DayD} (h : Alike A B) (st : Nat → Int) (w : Int) : ∀ n, stemN A st w n = stemN B st w n
  | 0 => rfl
  | n + 1 => by
    show (if A.lw n = w then add64 (stemN A st w n) (st n) else stemN A st w n) = (if B.lw n = w then add64 (stemN B st w n) (st n) else stemN B st w n)
    rw [Alike.stem h st w n, h.lw]
theorem Alike.tru {A B : DayD} (h : Alike A B) (f : Nat → Int) : truF A f = truF B f := by
  unfold truF; rw [h.nw, h.nl]
theorem Alike.bun {A B : DayD} (h : Alike A B) (t : TruD) : A.bun t = B.bun t := funext fun w => by unfold DayD.bun; rw [h.stem]
theorem Alike.lef {A B : DayD} (h : Alike A B) (t : TruD) : A.lef t = B.lef t := funext fun w => by unfold DayD.lef; rw [h.stem]
theorem Alike.tally {A B : DayD} (h : Alike A B) (t : TruD) : A.tally t = B.tally t := by
  have h3 : A.all t = B.all t := by unfold DayD.all; rw [h.bun, h.nw]
  unfold DayD.tally
  rw [h.bun, h.lef, h3, h.hand, h.flat, h.nw]
theorem narrow_ok {A B : DayD} (hl : Alike A B) (hn : A.nw < 1000) (hsub : ∀ f, f ∈ A.seen.outs → f ∈ B.seen.outs) (hne : A.seen.outs ≠ []) : Pure Try.prog 48 [A.bndV, B.bndV] (.lit (.bool true)) := by
  have hE := fun V W h => ends_sub hsub hne V W h
  unfold DayD.bndV
  rw [← hl.nw]
  refine narrower_ok A.nw hn _ _ _ _ _ _ _ _ _ _ _ _ _ _ _ _ _ _ _ _ _ _ _ _ _ _ _ _ (fun w _ => ?_) (fun w _ => ?_) (fun w _ => ?_) ?_ ?_ ?_ ?_
  · exact hE (fun f => f w) (fun f => f w) (fun _ => rfl)
  · exact hE (fun f => A.bun (truF A f) w) (fun f => B.bun (truF B f) w) (fun f => by rw [hl.tru, hl.bun])
  · exact hE (fun f => A.lef (truF A f) w) (fun f => B.lef (truF B f) w) (fun f => by rw [hl.tru, hl.lef])
  · exact hE (fun f => (A.tally (truF A f)).hands) (fun f => (B.tally (truF B f)).hands) (fun f => by rw [hl.tru, hl.tally])
  · exact hE (fun f => (A.tally (truF A f)).loose) (fun f => (B.tally (truF B f)).loose) (fun f => by rw [hl.tru, hl.tally])
  · exact hE (fun f => (A.tally (truF A f)).flats) (fun f => (B.tally (truF B f)).flats) (fun f => by rw [hl.tru, hl.tally])
  · exact hE (fun f => (A.tally (truF A f)).spare) (fun f => (B.tally (truF B f)).spare) (fun f => by rw [hl.tru, hl.tally])
theorem ris_len {many : Nat} (hm : many ≤ 5) {pre post : List (List Nat)} {l a : List Nat} (hE : risL many = pre ++ l :: post) (ha : a ∈ risL many) (hp : a ∉ pre) : l.length ≤ a.length := by
  rcases Nat.lt_or_ge a.length l.length with h | h
  · refine absurd (ris_before hm hE ha ?_) hp
    unfold shL shortB
    have : (a.length : Int) < l.length := by omega
    rw [decide_eq_true this]; rfl
  · exact h
theorem find_split {α : Type} {p : α → Bool} : ∀ {l : List α} {a : α}, l.find? p = some a → ∃ pre post, l = pre ++ a :: post ∧ (∀ b ∈ pre, p b = false) ∧ p a = true
  | [], _, h => by cases h
  | x :: l, a, h => by
    rw [List.find?_cons] at h
    split at h
    · rename_i hx
      cases h
      exact ⟨[], l, rfl, (fun b hb => by cases hb), hx⟩
    · rename_i hx
      obtain ⟨pre, post, h1, h2, h3⟩ := find_split h
      refine ⟨x :: pre, post, by rw [h1]; rfl, fun b hb => ?_, h3⟩
      rcases List.mem_cons.1 hb with rfl | hb
      · simpa using hx
      · exact h2 b hb
theorem find_short {many : Nat} (hm : many ≤ 5) {p : List Nat → Bool} {l a : List Nat} (h : (risL many).find? p = some l) (ha : a ∈ risL many) (hp : p a = true) : l.length ≤ a.length := by
  obtain ⟨pre, post, h1, h2, _⟩ := find_split h
  refine ris_len hm h1 ha fun hin => ?_
  rw [h2 a hin] at hp; cases hp
theorem find_in {many : Nat} {p : List Nat → Bool} {l : List Nat} (h : (risL many).find? p = some l) : l ∈ risL many ∧ p l = true := by
  obtain ⟨pre, post, h1, _, h3⟩ := find_split h
  exact ⟨by rw [h1]; simp, h3⟩
theorem leave_find {d : DayD} (hc : d.check = 0) (hn : d.nc ≤ 5) : ∃ l, (risL d.nc).find? (leaveQ d.seen.E) = some l ∧ leaveV d.seen.E d.nc = lsV l := by
  obtain ⟨pre, l, post, h1, h2, h3, h4⟩ := left_found hc hn
  have hf : (risL d.nc).find? (leaveQ d.seen.E) = some l := by
    rw [h1]
    clear h1
    induction pre with
    | nil => rw [List.nil_append, List.find?_cons, h3]
    | cons x pre ih =>
      rw [List.cons_append, List.find?_cons, h2 x (by simp)]
      exact ih fun l' hl' => h2 l' (by simp [hl'])
  exact ⟨l, hf, h4⟩
section
variable (d : DayD) (k w lo hi : Int)
end
end Go.Fz
namespace Go.Fz
open Go.Proofs
set_option maxRecDepth 100000
theorem cntC_one (d : DayD) (i k : Nat) : (cntC d i k).one = true := by unfold cntC; split <;> rfl
theorem append_noneZ {T : Ti} {t id sz n : Nat} {ex : Bool} {g : Nat → Nat → AV} {st : St} (hz : n = 0) (h : sliceB T t sz = true) (hx : st.h.get id = some (.cells none false [])) :
    appendA T st t t (.sl id 0 0 sz true) (.isl n sz ex g) = some (.sl id 0 0 sz true, st) := by
  subst hz
  exact append_none h hx
theorem append_emptyG {T : Ti} {t id sz n : Nat} {ex : Bool} {g : Nat → Nat → AV} {st : St} {G : List AV} (h : sliceB T t sz = true) (hx : st.h.get id = some (.cells none false [])) (hn : n < 1048576) (h0 : 0 < n) (hone : ∀ i k, (g i k).one = true) (hG : G = flatG sz g n) :
    appendA T st t t (.sl id 0 0 sz true) (.isl n sz ex g) = some (.sl st.n 0 n sz false, st.push (.cells none false G)) := by
  subst hG
  exact append_empty h hx hn h0 hone
section
variable {T : Ti}
end
end Go.Fz
namespace Go.Fz
open Go.Proofs
set_option maxRecDepth 100000
section
variable {P : Program} {T : Ti}
def scalB (T : Ti) (t : TypeId) : Bool := match T t with
  | some i => !(aggD i.desc)
  | none => false
theorem load_at {t : TypeId} {h : Hp} {id off : Nat} {fm : Option Nat} {ro : Bool} {cs : List AV} {v : AV} (hs : scalB T t = true) (hg : h.get id = some (.cells fm ro cs)) (hc : cs[off]? = some v) : loadA T h t (.ptr id off) = some v := by
  unfold scalB at hs
  split at hs
  · rename_i i hi
    simp only [loadA, ptrOf, cellsAt, hg, partA, hi]
    rw [if_neg (by simpa using hs)]
    exact hc
  · cases hs
def rdyB (ops : Array Oper) (pend : List (Nat × AV)) (listed : Array Bool) (i : Nat) : Bool := match ops[i]? with
  | some o => (Region.ready .any ops listed).contains i && noLookB ops pend o
  | none => false
theorem AnyE.ldD (hT : TOk P T) {rd : Option Nat} {ops : Array Oper} {M : List Nat} {K : Fm → St → Prop} {fuel : Nat} {pend : List (Nat × AV)} {listed : Array Bool} {f : Fm} {st : St} (hM : tidyB ops M = true) (i : Nat) {t : TypeId} {p r : AV}
    (hx : ldAt ops i f = some (t, p)) (hr : loadA T st.h t p = some r) (hb : rdyB ops pend listed i = true)
    (h : AnyE P T ops M rd K fuel ((i, r) :: pend) (listed.setIfInBounds i true) (putAt ops i f r) st) : AnyE P T ops M rd K (fuel + 1) pend listed f st := by
  unfold rdyB at hb
  unfold ldAt at hx
  split at hx
  · cases hx
  · rename_i o ho
    split at hx
    · rename_i hw
      split at hx
      · rename_i t' p' hop
        simp only [Option.some.injEq, Prod.mk.injEq] at hx
        obtain ⟨rfl, rfl⟩ := hx
        have hput : ∀ v, putAt ops i f v = f.put o.dst v := fun v => by simp [putAt, ho]
        rw [hput] at h
        simp only [ho] at hb
        refine AnyE.take hM hT i ho hb ?_ h
        simp only [Fz.lightV, ho, hw, evG, evL, hop, hr]
      · cases hx
    · cases hx
theorem AnyE.stoK (hT : TOk P T) {rd : Option Nat} {ops : Array Oper} {M : List Nat} {K : Fm → St → Prop} {fuel : Nat} {pend pend' : List (Nat × AV)} {listed : Array Bool} {f : Fm} {st : St} {j t id off : Nat} {v : Int} {k : IntKind} {G : List AV}
    (hj : onlyD ops M pend listed = some (j, pend')) (ha : stoAt ops j f = some (t, .ptr id off, .lit (.int k v))) (hb : sizeB T t 1 = true) (hx : st.h.get id = some (.cells none false G)) (hl : off < G.length)
    (h : ∀ G', G' = G.set off (.lit (.int k v)) → AllP (fun p => lightV T ops (st.h.set id (.cells none false G')) (putAt ops j f undA) p.1 = some p.2) pend' ∧ AnyE P T ops M rd K fuel pend' (listed.setIfInBounds j true) (putAt ops j f undA) ⟨st.h.set id (.cells none false G'), st.n⟩) : AnyE P T ops M rd K (fuel + 1) pend listed f st := fun k1 k2 k3 => by
  obtain ⟨hk, h⟩ := h _ rfl
  unfold stoAt at ha
  split at ha
  · cases ha
  · rename_i o ho
    split at ha
    · rename_i hw
      split at ha
      · rename_i t' p x hop
        simp only [Option.some.injEq, Prod.mk.injEq] at ha
        obtain ⟨rfl, e2, e3⟩ := ha
        have hput : ∀ v, putAt ops j f v = f.put o.dst v := fun v => by simp [putAt, ho]
        rw [hput] at h hk
        have hst : storeO T st (Operand.av f.ts) o = some ⟨st.h.set id (.cells none false (G.set off (.lit (.int k v)))), st.n⟩ := by
          unfold sizeB at hb
          split at hb
          · rename_i ti hti
            have hsz := Nat.eq_of_beq_eq_true hb
            have h1 : (AV.lit (.int k v)).cells = [.lit (.int k v)] := rfl
            have h2 : (AV.lit (.int k v)).one = true := rfl
            have h3 : (AV.lit (.int k v)).norm = .lit (.int k v) := rfl
            simp only [storeO, hop, storeA, e2, e3, ptrOf, hti, hx, h1, hsz, List.length_singleton, List.map_cons, List.map_nil, h3, setsL_one, List.all_cons, h2, List.all_nil]
            rw [if_pos ⟨trivial, by omega, by simp, by omega⟩]
          · cases hb
        unfold onlyD at hj
        split at hj
        · rename_i j' hrd
          split at hj
          · rename_i o1 ho1
            split at hj
            · rename_i hnl
              simp only [Option.some.injEq, Prod.mk.injEq] at hj
              obtain ⟨rfl, hd⟩ := hj
              refine AnyE.one j' ho (by rw [hrd]; exact Nat.beq_refl j') pend' hd (OpsW.store hT ho hw hst (.nil ⟨⟨undA, rfl⟩, (show PendOk T ops pend' (f.put o.dst undA) _ from fun p hp => LV.of (hk.ok p hp)), h⟩)) k1 k2 k3
            · cases hj
          · cases hj
        · cases hj
      · cases ha
    · cases ha
def nilCAt (ops : Array Oper) (i : Nat) (f : Fm) : Option AV := match ops[i]? with
  | none => none
  | some o => match wantA ops f.ts o with
    | some true => match o.op with
      | .nilCheck x => some (Operand.av f.ts x)
      | _ => none
    | _ => none
theorem OpsW.nilC {rd : Option Nat} {ops : Array Oper} {i : Nat} {l : List Nat} {K : Fm → St → Prop} {f : Fm} {st : St} {id off : Nat} (hn : nilCAt ops i f = some (.ptr id off))
    (h0 : OpsW P rd ops l K (putAt ops i f (.ptr id off)) st) : OpsW P rd ops (i :: l) K f st := by
  unfold nilCAt at hn
  split at hn
  · cases hn
  · rename_i o ho
    split at hn
    · rename_i hw
      split at hn
      · rename_i x hx
        simp only [Option.some.injEq] at hn
        have hput : ∀ v, putAt ops i f v = f.put o.dst v := fun v => by simp [putAt, ho]
        rw [hput] at h0
        intro φ w a n Q k1 k2 k3 hQ
        have hxx := opR_of k3.ts x
        rw [hn] at hxx
        simp only [wpOpsIn, ho]
        rw [wanted_eq k3 ops hw]
        simp only [if_true]
        refine ⟨fun _ _ => trivial, ?_⟩
        rw [semAt_eq (fun c hc => by rw [hx] at hc; cases hc)]
        have hp := hxx.ptr_inv.1
        have key : (execOp a.eval o).run P w = .ok (.value (a.eval x)) w := by
          simp only [execOp, hx, hp]
          rfl
        rw [key]
        exact h0 φ w _ n Q k1 k2 (k3.put o.dst hxx) hQ
      · cases hn
    · cases hn
theorem PickE.nilC {ops : Array Oper} {M : List Nat} {rd : Option Nat} {K : Fm → St → Prop} {fuel : Nat} {pend pend' : List (Nat × AV)} {listed : Array Bool} {f : Fm} {st : St} {j id off : Nat} (hd : dropP M j pend = pend') (hx : nilCAt ops j f = some (.ptr id off))
    (hk : AllP (fun p => lightV T ops st.h (putAt ops j f (.ptr id off)) p.1 = some p.2) pend') (h : AnyE P T ops M rd K fuel pend' (listed.setIfInBounds j true) (putAt ops j f (.ptr id off)) st) : PickE P T ops M rd K fuel pend listed f st j := by
  have hx' := hx
  unfold nilCAt at hx
  split at hx
  · cases hx
  · rename_i o ho
    have hput : ∀ v, putAt ops j f v = f.put o.dst v := fun v => by simp [putAt, ho]
    exact ⟨o, pend', ho, hd, OpsW.nilC hx' (.nil ⟨⟨_, hput _⟩, (show PendOk T ops pend' (putAt ops j f (.ptr id off)) st.h from fun p hpm => LV.of (hk.ok p hpm)), h⟩)⟩
theorem AnyE.nilC {ops : Array Oper} {M : List Nat} {rd : Option Nat} {K : Fm → St → Prop} {fuel : Nat} {pend pend' : List (Nat × AV)} {listed : Array Bool} {f : Fm} {st : St} {j id off : Nat} (hj : onlyD ops M pend listed = some (j, pend')) (hx : nilCAt ops j f = some (.ptr id off))
    (h : AnyE P T ops M rd K fuel pend' (listed.setIfInBounds j true) (putAt ops j f (.ptr id off)) st) : AnyE P T ops M rd K (fuel + 1) pend listed f st := fun k1 k2 k3 => by
  unfold onlyD at hj
  split at hj
  · rename_i j' hr
    split at hj
    · rename_i o ho
      split at hj
      · rename_i hnl
        cases hj
        have hput : ∀ v, putAt ops j f v = f.put o.dst v := fun v => by simp [putAt, ho]
        refine AnyE.one j ho (by rw [hr]; exact Nat.beq_refl j) _ rfl (OpsW.nilC hx (.nil ⟨⟨_, hput _⟩, fun p hpm => ?_, h⟩)) k1 k2 k3
        show LV T ops st.h (putAt ops j f (.ptr id off)) p.1 p.2
        rw [hput, LV_put (fun q hq d hd => noLookB_ok hnl p hpm q hq d hd)]
        exact k3 p (List.mem_filter.1 hpm).1
      · cases hj
    · cases hj
  · cases hj
theorem Eqv.room {len sz : Nat} {g : Nat → Nat → AV} : Eqv (.isl len sz true g) (.isl len sz false g) := fun φ u hv => by
  rcases hv.isl_inv with ⟨rfl, rfl⟩ | ⟨b, o, cap, c, us, rfl, hz, hcc, hus, hcap, _⟩
  · exact .isl0 _ _ _
  · exact .isl _ _ _ _ b o cap c us hz hcc hus hcap (fun h => by cases h)
end
theorem frz_slX {h : Hp} {D : Nat → Bool} {id sz n : Nat} {ex : Bool} {fm : Option Nat} {G : List AV} (hd : D id = true) (hg : h.get id = some (.cells fm false G)) (hl : n * sz ≤ G.length) :
    frz h D 3 (.sl id 0 n sz ex) = .isl n sz ex (fun i k => frz h D 2 (G.getD (0 + i * sz + k) .any)) := by
  show (if D id = true then (match h.get id with | some (.cells _ false cs) => if 0 + n * sz ≤ cs.length then AV.isl n sz ex (fun i k => frz h D 2 (cs.getD (0 + i * sz + k) .any)) else .any | _ => .any) else _) = _
  rw [if_pos hd, hg]
  exact if_pos (by omega)
def wiS (d : DayD) (h : Hp) (W L C : AV) (n : Nat) : St := ⟨h ++ [(1, .cells none false [iV d.hand, iV d.flat, W, L, C]), (0, .cells none false (dayC d))], n⟩
def wiL (x0 x1 : Int) : List (Nat × AV) := [(1, .lit (.int .u8 x0)), (2, .lit (.int .u8 x1)), (3, .ptr 0 0), (7, .ptr 1 0)]
end Go.Fz
namespace Go.Fz
open Go.Proofs
set_option maxRecDepth 100000
set_option linter.unusedVariables false
set_option maxHeartbeats 8000000 in
theorem wi_9 (d : DayD) (a1 b1 : Nat) (c1 : Bool) (h1 : Nat → Nat → AV) (a2 b2 : Nat) (c2 : Bool) (h2 : Nat → Nat → AV) (a3 b3 : Nat) (c3 : Bool) (h3 : Nat → Nat → AV) (g : Nat → AV) (O : Ar) (hO : O = std) (VD : AV) (hday : Pure Try.prog 19 [dayV d] VD)(LL : Nat) (fl : Nat → Int) (hl : Pure Try.prog 31 [VD] (.tup [intsV LL false fl, iV 0])) (h : AllP (fun p => g p.1 = p.2) [(3, .ptr 0 0), (7, .ptr 1 0)]) :
    SW Try.prog none (nthC 9 (bodyF Try.f11)) (midK 223 [(3, .ptr 0 0), (7, .ptr 1 0), (15, intsV LL false fl), (16, iV 0)] (wiS d [] (.isl a1 b1 c1 h1) (.isl a2 b2 c2 h2) (.isl a3 b3 c3 h3) 5)) ⟨⟨223, g⟩, []⟩ (wiS d [] (.isl a1 b1 c1 h1) (.isl a2 b2 c2 h2) (.isl a3 b3 c3 h3) 5) := by
  obtain ⟨g3, g7, _⟩ := h
  simp only at g3 g7
  rw [← updT_self g3, ← updT_self g7]
  refine SW.run tok hO (by cbv <;> rfl) (by trivial) ?_
  refine OpsW.callP hday (by cbv <;> rfl) ?_
  refine OpsW.run tok hO (by cbv <;> rfl) (by trivial) ?_
  refine OpsW.callP hl (by cbv <;> rfl) ?_
  refine OpsW.run tok hO (by cbv <;> rfl) (by trivial) ?_
  exact ⟨rfl, _, rfl, ⟨rfl, rfl, rfl, rfl, trivial⟩, rfl⟩
set_option maxHeartbeats 8000000 in
theorem wi_10 (d : DayD) (a1 b1 : Nat) (c1 : Bool) (h1 : Nat → Nat → AV) (a2 b2 : Nat) (c2 : Bool) (h2 : Nat → Nat → AV) (a3 b3 : Nat) (c3 : Bool) (h3 : Nat → Nat → AV) (g : Nat → AV) (O : Ar) (hO : O = std) (VX : AV) (hdayx : Pure Try.prog 19 [(.agg [iV d.hand, iV d.flat, .isl a1 b1 c1 h1, .isl a2 b2 c2 h2, .isl a3 b3 c3 h3])] VX)(LL : Nat) (fl : Nat → Int)(LM : Nat) (fm : Nat → Int) (hl : Pure Try.prog 31 [VX] (.tup [intsV LM false fm, iV 0])) (h : AllP (fun p => g p.1 = p.2) [(3, .ptr 0 0), (7, .ptr 1 0), (15, intsV LL false fl), (16, iV 0)]) :
    SW Try.prog none (nthC 10 (bodyF Try.f11)) (midK 223 [(3, .ptr 0 0), (7, .ptr 1 0), (15, intsV LL false fl), (16, iV 0), (17, intsV LM false fm), (18, iV 0)] (wiS d [] (.isl a1 b1 c1 h1) (.isl a2 b2 c2 h2) (.isl a3 b3 c3 h3) 5)) ⟨⟨223, g⟩, []⟩ (wiS d [] (.isl a1 b1 c1 h1) (.isl a2 b2 c2 h2) (.isl a3 b3 c3 h3) 5) := by
  obtain ⟨g3, g7, g15, g16, _⟩ := h
  simp only at g3 g7 g15 g16
  rw [← updT_self g3, ← updT_self g7, ← updT_self g15, ← updT_self g16]
  refine SW.run tok hO (by cbv <;> rfl) (by trivial) ?_
  refine OpsW.callP hdayx (by cbv <;> rfl) ?_
  refine OpsW.run tok hO (by cbv <;> rfl) (by trivial) ?_
  refine OpsW.callP hl (by cbv <;> rfl) ?_
  refine OpsW.run tok hO (by cbv <;> rfl) (by trivial) ?_
  exact ⟨rfl, _, rfl, ⟨rfl, rfl, rfl, rfl, rfl, rfl, trivial⟩, rfl⟩
set_option maxHeartbeats 8000000 in
theorem wi_11 (d : DayD) (a1 b1 : Nat) (c1 : Bool) (h1 : Nat → Nat → AV) (a2 b2 : Nat) (c2 : Bool) (h2 : Nat → Nat → AV) (a3 b3 : Nat) (c3 : Bool) (h3 : Nat → Nat → AV) (g : Nat → AV) (O : Ar) (hO : O = std) (VD : AV) (hday : Pure Try.prog 19 [dayV d] VD)(LL : Nat) (fl : Nat → Int)(LM : Nat) (fm : Nat → Int)(n1 : Nat) (X Y Z : Nat → Nat → AV) (p q r s t u v w' e : Int) (hb : Pure Try.prog 18 [VD] (.tup [.agg [.isl n1 2 false X, .isl n1 2 false Y, .isl n1 2 false Z, iV p, iV q, iV r, iV s, iV t, iV u, iV v, iV w'], iV e])) (h : AllP (fun p => g p.1 = p.2) [(3, .ptr 0 0), (7, .ptr 1 0), (15, intsV LL false fl), (16, iV 0), (17, intsV LM false fm), (18, iV 0)]) :
    SW Try.prog none (nthC 11 (bodyF Try.f11)) (midK 223 [(3, .ptr 0 0), (7, .ptr 1 0), (15, intsV LL false fl), (16, iV 0), (17, intsV LM false fm), (18, iV 0), (19, .ptr 5 0), (20, iV e)] (wiS d [(5, .cells none false [.isl n1 2 false X, .isl n1 2 false Y, .isl n1 2 false Z, iV p, iV q, iV r, iV s, iV t, iV u, iV v, iV w'])] (.isl a1 b1 c1 h1) (.isl a2 b2 c2 h2) (.isl a3 b3 c3 h3) 6)) ⟨⟨223, g⟩, []⟩ (wiS d [] (.isl a1 b1 c1 h1) (.isl a2 b2 c2 h2) (.isl a3 b3 c3 h3) 5) := by
  obtain ⟨g3, g7, g15, g16, g17, g18, _⟩ := h
  simp only at g3 g7 g15 g16 g17 g18
  rw [← updT_self g3, ← updT_self g7, ← updT_self g15, ← updT_self g16, ← updT_self g17, ← updT_self g18]
  refine SW.run tok hO (by cbv <;> rfl) (by trivial) ?_
  refine OpsW.callP hday (by cbv <;> rfl) ?_
  refine OpsW.run tok hO (by cbv <;> rfl) (by trivial) ?_
  refine OpsW.callP hb (by cbv <;> rfl) ?_
  refine OpsW.run tok hO (by cbv <;> rfl) (by trivial) ?_
  exact ⟨rfl, _, rfl, ⟨rfl, rfl, rfl, rfl, rfl, rfl, rfl, rfl, trivial⟩, rfl⟩
set_option maxHeartbeats 8000000 in
theorem wi_12 (d : DayD) (a1 b1 : Nat) (c1 : Bool) (h1 : Nat → Nat → AV) (a2 b2 : Nat) (c2 : Bool) (h2 : Nat → Nat → AV) (a3 b3 : Nat) (c3 : Bool) (h3 : Nat → Nat → AV) (g : Nat → AV) (O : Ar) (hO : O = std) (VX : AV) (hdayx : Pure Try.prog 19 [(.agg [iV d.hand, iV d.flat, .isl a1 b1 c1 h1, .isl a2 b2 c2 h2, .isl a3 b3 c3 h3])] VX)(LL : Nat) (fl : Nat → Int)(LM : Nat) (fm : Nat → Int)(n1 : Nat) (X Y Z : Nat → Nat → AV) (p q r s t u v w' e : Int)(n2 : Nat) (X2 Y2 Z2 : Nat → Nat → AV) (p2 q2 r2 s2 t2 u2 v2 w2 e2 : Int) (hb : Pure Try.prog 18 [VX] (.tup [.agg [.isl n2 2 false X2, .isl n2 2 false Y2, .isl n2 2 false Z2, iV p2, iV q2, iV r2, iV s2, iV t2, iV u2, iV v2, iV w2], iV e2])) (h : AllP (fun p => g p.1 = p.2) [(3, .ptr 0 0), (7, .ptr 1 0), (15, intsV LL false fl), (16, iV 0), (17, intsV LM false fm), (18, iV 0), (19, .ptr 5 0), (20, iV e)]) :
    SW Try.prog none (nthC 12 (bodyF Try.f11)) (midK 223 [(3, .ptr 0 0), (7, .ptr 1 0), (15, intsV LL false fl), (16, iV 0), (17, intsV LM false fm), (18, iV 0), (19, .ptr 5 0), (20, iV e), (21, .ptr 6 0), (22, iV e2)] (wiS d [(6, .cells none false [.isl n2 2 false X2, .isl n2 2 false Y2, .isl n2 2 false Z2, iV p2, iV q2, iV r2, iV s2, iV t2, iV u2, iV v2, iV w2]), (5, .cells none false [.isl n1 2 false X, .isl n1 2 false Y, .isl n1 2 false Z, iV p, iV q, iV r, iV s, iV t, iV u, iV v, iV w'])] (.isl a1 b1 c1 h1) (.isl a2 b2 c2 h2) (.isl a3 b3 c3 h3) 7)) ⟨⟨223, g⟩, []⟩ (wiS d [(5, .cells none false [.isl n1 2 false X, .isl n1 2 false Y, .isl n1 2 false Z, iV p, iV q, iV r, iV s, iV t, iV u, iV v, iV w'])] (.isl a1 b1 c1 h1) (.isl a2 b2 c2 h2) (.isl a3 b3 c3 h3) 6) := by
  obtain ⟨g3, g7, g15, g16, g17, g18, g19, g20, _⟩ := h
  simp only at g3 g7 g15 g16 g17 g18 g19 g20
  rw [← updT_self g3, ← updT_self g7, ← updT_self g15, ← updT_self g16, ← updT_self g17, ← updT_self g18, ← updT_self g19, ← updT_self g20]
  refine SW.run tok hO (by cbv <;> rfl) (by trivial) ?_
  refine OpsW.callP hdayx (by cbv <;> rfl) ?_
  refine OpsW.run tok hO (by cbv <;> rfl) (by trivial) ?_
  refine OpsW.callP hb (by cbv <;> rfl) ?_
  refine OpsW.run tok hO (by cbv <;> rfl) (by trivial) ?_
  exact ⟨rfl, _, rfl, ⟨rfl, rfl, rfl, rfl, rfl, rfl, rfl, rfl, rfl, rfl, trivial⟩, rfl⟩
set_option maxHeartbeats 8000000 in
theorem wi_13a (d : DayD) (a1 b1 : Nat) (c1 : Bool) (h1 : Nat → Nat → AV) (a2 b2 : Nat) (c2 : Bool) (h2 : Nat → Nat → AV) (a3 b3 : Nat) (c3 : Bool) (h3 : Nat → Nat → AV) (g : Nat → AV) (O : Ar) (hO : O = std) (LL : Nat) (fl : Nat → Int) (LM : Nat) (fm : Nat → Int) (n1 : Nat) (X Y Z : Nat → Nat → AV) (p q r s t u v w' : Int) (n2 : Nat) (X2 Y2 Z2 : Nat → Nat → AV) (p2 q2 r2 s2 t2 u2 v2 w2 e2 : Int) (hLM : LM ≤ LL) (h : AllP (fun p => g p.1 = p.2) [(3, .ptr 0 0), (7, .ptr 1 0), (15, intsV LL false fl), (16, iV 0), (17, intsV LM false fm), (18, iV 0), (19, .ptr 5 0), (20, iV 0), (21, .ptr 6 0), (22, iV e2)]) :
    SW Try.prog none (nthC 13 (bodyF Try.f11)) (midK 223 [(19, .ptr 5 0), (20, iV 0), (21, .ptr 6 0), (22, iV e2)] (wiS d [(6, .cells none false [.isl n2 2 false X2, .isl n2 2 false Y2, .isl n2 2 false Z2, iV p2, iV q2, iV r2, iV s2, iV t2, iV u2, iV v2, iV w2]), (5, .cells none false [.isl n1 2 false X, .isl n1 2 false Y, .isl n1 2 false Z, iV p, iV q, iV r, iV s, iV t, iV u, iV v, iV w'])] (.isl a1 b1 c1 h1) (.isl a2 b2 c2 h2) (.isl a3 b3 c3 h3) 7)) ⟨⟨223, g⟩, []⟩ (wiS d [(6, .cells none false [.isl n2 2 false X2, .isl n2 2 false Y2, .isl n2 2 false Z2, iV p2, iV q2, iV r2, iV s2, iV t2, iV u2, iV v2, iV w2]), (5, .cells none false [.isl n1 2 false X, .isl n1 2 false Y, .isl n1 2 false Z, iV p, iV q, iV r, iV s, iV t, iV u, iV v, iV w'])] (.isl a1 b1 c1 h1) (.isl a2 b2 c2 h2) (.isl a3 b3 c3 h3) 7) := by
  have hz : O.cmp .neq 0 0 = false := by subst hO; rfl
  have hgt : O.cmp .gtr (Int.ofNat LM) (Int.ofNat LL) = false := by subst hO; simp [std]; omega
  obtain ⟨g3, g7, g15, g16, g17, g18, g19, g20, g21, g22, _⟩ := h
  simp only at g3 g7 g15 g16 g17 g18 g19 g20 g21 g22
  rw [← updT_self g3, ← updT_self g7, ← updT_self g15, ← updT_self g16, ← updT_self g17, ← updT_self g18, ← updT_self g19, ← updT_self g20, ← updT_self g21, ← updT_self g22]
  refine SW.seqRun tok hO (by cbv <;> rfl) (by trivial) ?_
  refine OpsW.splitG (by cbv <;> rfl) (fun h => absurd (show false = true from hz.symm.trans h) (by decide)) (fun _ => ?_)
  refine OpsW.run tok hO (by cbv <;> rfl) (by trivial) ?_
  refine OpsW.splitG (by cbv <;> rfl) (fun h => absurd (show false = true from hz.symm.trans h) (by decide)) (fun _ => ?_)
  refine OpsW.run tok hO (by cbv <;> rfl) (by trivial) ?_
  refine OpsW.splitG (by cbv <;> rfl) (fun h => absurd (show false = true from hgt.symm.trans h) (by decide)) (fun _ => ?_)
  refine OpsW.run tok hO (by cbv <;> rfl) (by trivial) ?_
  refine OpsW.splitG (by cbv <;> rfl) (fun h => absurd (show false = true from hz.symm.trans h) (by decide)) (fun _ => ?_)
  refine OpsW.run tok hO (by cbv <;> rfl) (by trivial) ?_
  refine SW.condS (by cbv <;> rfl) (fun h => ?_) (fun _ => SW.skip ?_)
  · first | exact absurd h (by decide) | exact absurd (show false = true from hz.symm.trans h) (by decide)
  exact ⟨rfl, _, rfl, ⟨rfl, rfl, rfl, rfl, trivial⟩, rfl⟩
set_option maxHeartbeats 8000000 in
theorem wi_13b (d : DayD) (a1 b1 : Nat) (c1 : Bool) (h1 : Nat → Nat → AV) (a2 b2 : Nat) (c2 : Bool) (h2 : Nat → Nat → AV) (a3 b3 : Nat) (c3 : Bool) (h3 : Nat → Nat → AV) (g : Nat → AV) (O : Ar) (hO : O = std) (LL : Nat) (fl : Nat → Int) (LM : Nat) (fm : Nat → Int) (n1 : Nat) (X Y Z : Nat → Nat → AV) (p q r s t u v w' : Int) (n2 : Nat) (X2 Y2 Z2 : Nat → Nat → AV) (p2 q2 r2 s2 t2 u2 v2 w2 e2 : Int) (hLM : LM ≤ LL) (h : AllP (fun p => g p.1 = p.2) [(3, .ptr 0 0), (7, .ptr 1 0), (15, intsV LL false fl), (16, iV 0), (17, intsV LM false fm), (18, iV 0), (19, .ptr 5 0), (20, iV 11), (21, .ptr 6 0), (22, iV e2)]) :
    SW Try.prog none (nthC 13 (bodyF Try.f11)) (midK 223 [(19, .ptr 5 0), (20, iV 11), (21, .ptr 6 0), (22, iV e2)] (wiS d [(6, .cells none false [.isl n2 2 false X2, .isl n2 2 false Y2, .isl n2 2 false Z2, iV p2, iV q2, iV r2, iV s2, iV t2, iV u2, iV v2, iV w2]), (5, .cells none false [.isl n1 2 false X, .isl n1 2 false Y, .isl n1 2 false Z, iV p, iV q, iV r, iV s, iV t, iV u, iV v, iV w'])] (.isl a1 b1 c1 h1) (.isl a2 b2 c2 h2) (.isl a3 b3 c3 h3) 7)) ⟨⟨223, g⟩, []⟩ (wiS d [(6, .cells none false [.isl n2 2 false X2, .isl n2 2 false Y2, .isl n2 2 false Z2, iV p2, iV q2, iV r2, iV s2, iV t2, iV u2, iV v2, iV w2]), (5, .cells none false [.isl n1 2 false X, .isl n1 2 false Y, .isl n1 2 false Z, iV p, iV q, iV r, iV s, iV t, iV u, iV v, iV w'])] (.isl a1 b1 c1 h1) (.isl a2 b2 c2 h2) (.isl a3 b3 c3 h3) 7) := by
  have hz : O.cmp .neq 0 0 = false := by subst hO; rfl
  have hgt : O.cmp .gtr (Int.ofNat LM) (Int.ofNat LL) = false := by subst hO; simp [std]; omega
  obtain ⟨g3, g7, g15, g16, g17, g18, g19, g20, g21, g22, _⟩ := h
  simp only at g3 g7 g15 g16 g17 g18 g19 g20 g21 g22
  rw [← updT_self g3, ← updT_self g7, ← updT_self g15, ← updT_self g16, ← updT_self g17, ← updT_self g18, ← updT_self g19, ← updT_self g20, ← updT_self g21, ← updT_self g22]
  refine SW.seqRun tok hO (by cbv <;> rfl) (by trivial) ?_
  refine OpsW.splitG (by cbv <;> rfl) (fun h => absurd (show false = true from hz.symm.trans h) (by decide)) (fun _ => ?_)
  refine OpsW.run tok hO (by cbv <;> rfl) (by trivial) ?_
  refine OpsW.splitG (by cbv <;> rfl) (fun h => absurd (show false = true from hz.symm.trans h) (by decide)) (fun _ => ?_)
  refine OpsW.run tok hO (by cbv <;> rfl) (by trivial) ?_
  refine OpsW.splitG (by cbv <;> rfl) (fun h => absurd (show false = true from hgt.symm.trans h) (by decide)) (fun _ => ?_)
  refine OpsW.run tok hO (by cbv <;> rfl) (by trivial) ?_
  have hp : O.cmp .neq 11 0 = true := by subst hO; rfl
  have hq : O.cmp .neq 11 11 = false := by subst hO; rfl
  refine OpsW.splitG (by cbv <;> rfl) (fun _ => ?_) (fun h => absurd (show true = false from hp.symm.trans h) (by decide))
  refine OpsW.run tok hO (by cbv <;> rfl) (by trivial) ?_
  refine SW.condS (by cbv <;> rfl) (fun h => absurd (show false = true from hq.symm.trans h) (by decide)) (fun _ => SW.skip ?_)
  exact ⟨rfl, _, rfl, ⟨rfl, rfl, rfl, rfl, trivial⟩, rfl⟩
set_option maxHeartbeats 8000000 in
theorem wi_14e (haw : Pure Try.prog 17 [] (.lit (.bool true))) (d : DayD) (a1 b1 : Nat) (c1 : Bool) (h1 : Nat → Nat → AV) (a2 b2 : Nat) (c2 : Bool) (h2 : Nat → Nat → AV) (a3 b3 : Nat) (c3 : Bool) (h3 : Nat → Nat → AV) (g : Nat → AV) (O : Ar) (hO : O = std) (n1 : Nat) (X Y Z : Nat → Nat → AV) (p q r s t u v w' : Int) (n2 : Nat) (X2 Y2 Z2 : Nat → Nat → AV) (p2 q2 r2 s2 t2 u2 v2 w2 e2 : Int) (h : AllP (fun p => g p.1 = p.2) [(19, .ptr 5 0), (20, iV 11), (21, .ptr 6 0), (22, iV e2)]) :
    SW Try.prog none (restC 14 (bodyF Try.f11)) (retQ T Try.f11 (fun v st' => Eqv (frz st'.h (fun _ => true) 3 v) (.lit (.bool true)))) ⟨⟨223, g⟩, []⟩ (wiS d [(6, .cells none false [.isl n2 2 false X2, .isl n2 2 false Y2, .isl n2 2 false Z2, iV p2, iV q2, iV r2, iV s2, iV t2, iV u2, iV v2, iV w2]), (5, .cells none false [.isl n1 2 false X, .isl n1 2 false Y, .isl n1 2 false Z, iV p, iV q, iV r, iV s, iV t, iV u, iV v, iV w'])] (.isl a1 b1 c1 h1) (.isl a2 b2 c2 h2) (.isl a3 b3 c3 h3) 7) := by
  have hp : O.cmp .neq 11 0 = true := by subst hO; rfl
  obtain ⟨g19, g20, g21, g22, _⟩ := h
  simp only at g19 g20 g21 g22
  rw [← updT_self g19, ← updT_self g20, ← updT_self g21, ← updT_self g22]
  refine SW.seq ?_
  refine SW.seqRun tok hO (by cbv <;> rfl) (by trivial) ?_
  refine SW.condS (by cbv <;> rfl) (fun _ => ?_) (fun h => absurd (show true = false from hp.symm.trans h) (by decide))
  refine SW.seqRun tok hO (by cbv <;> rfl) (by trivial) ?_
  refine OpsW.callP haw (by cbv <;> rfl) ?_
  refine OpsW.run tok hO (by cbv <;> rfl) (by trivial) ?_
  exact SW.ret ⟨_, _, rfl, rfl, Eqv.refl _⟩
set_option maxHeartbeats 8000000 in
theorem wi_14 (haw : Pure Try.prog 17 [] (.lit (.bool true))) (d : DayD) (a1 b1 : Nat) (c1 : Bool) (h1 : Nat → Nat → AV) (a2 b2 : Nat) (c2 : Bool) (h2 : Nat → Nat → AV) (a3 b3 : Nat) (c3 : Bool) (h3 : Nat → Nat → AV) (g : Nat → AV) (O : Ar) (hO : O = std) (n1 : Nat) (X Y Z : Nat → Nat → AV) (p q r s t u v w' : Int) (n2 : Nat) (X2 Y2 Z2 : Nat → Nat → AV) (p2 q2 r2 s2 t2 u2 v2 w2 : Int) (hn : Pure Try.prog 48 [.agg [.isl n1 2 false X, .isl n1 2 false Y, .isl n1 2 false Z, iV p, iV q, iV r, iV s, iV t, iV u, iV v, iV w'], .agg [.isl n2 2 false X2, .isl n2 2 false Y2, .isl n2 2 false Z2, iV p2, iV q2, iV r2, iV s2, iV t2, iV u2, iV v2, iV w2]] (.lit (.bool true))) (h : AllP (fun p => g p.1 = p.2) [(19, .ptr 5 0), (20, iV 0), (21, .ptr 6 0), (22, iV 0)]) :
    SW Try.prog none (restC 14 (bodyF Try.f11)) (retQ T Try.f11 (fun v st' => Eqv (frz st'.h (fun _ => true) 3 v) (.lit (.bool true)))) ⟨⟨223, g⟩, []⟩ (wiS d [(6, .cells none false [.isl n2 2 false X2, .isl n2 2 false Y2, .isl n2 2 false Z2, iV p2, iV q2, iV r2, iV s2, iV t2, iV u2, iV v2, iV w2]), (5, .cells none false [.isl n1 2 false X, .isl n1 2 false Y, .isl n1 2 false Z, iV p, iV q, iV r, iV s, iV t, iV u, iV v, iV w'])] (.isl a1 b1 c1 h1) (.isl a2 b2 c2 h2) (.isl a3 b3 c3 h3) 7) := by
  have hz : O.cmp .neq 0 0 = false := by subst hO; rfl
  have hy : O.cmp .eql 0 0 = true := by subst hO; rfl
  obtain ⟨g19, g20, g21, g22, _⟩ := h
  simp only at g19 g20 g21 g22
  rw [← updT_self g19, ← updT_self g20, ← updT_self g21, ← updT_self g22]
  refine SW.seq ?_
  refine SW.seqRun tok hO (by cbv <;> rfl) (by trivial) ?_
  refine SW.condS (by cbv <;> rfl) (fun h => absurd (show false = true from hz.symm.trans h) (by decide)) (fun _ => SW.skip ?_)
  refine SW.seqRun tok hO (by cbv <;> rfl) (by trivial) ?_
  refine OpsW.splitG (by cbv <;> rfl) (fun _ => ?_) (fun h => absurd (show true = false from hy.symm.trans h) (by decide))
  refine OpsW.run tok hO (by cbv <;> rfl) (by trivial) ?_
  refine OpsW.callP hn (by cbv <;> rfl) ?_
  refine OpsW.run tok hO (by cbv <;> rfl) (by trivial) ?_
  refine OpsW.callP haw (by cbv <;> rfl) ?_
  refine OpsW.run tok hO (by cbv <;> rfl) (by trivial) ?_
  exact SW.ret ⟨_, _, rfl, rfl, Eqv.refl _⟩
end Go.Fz
namespace Go.Fz
open Go.Proofs
set_option maxRecDepth 100000
structure Wider (d x : DayD) : Prop where
  like : Alike d x
  nc : x.nc = d.nc
  ck : x.ck = d.ck
  cw : x.cw = d.cw
  wom : ∀ i, i < d.nw → x.wlo i ≤ d.wlo i ∧ d.whi i ≤ x.whi i
  lot : ∀ i, i < d.nl → x.llo i ≤ d.llo i ∧ d.lhi i ≤ x.lhi i
  cnt : ∀ i, i < d.nc → x.clo i ≤ d.clo i ∧ d.chi i ≤ x.chi i
variable {d x : DayD}
theorem Wider.inR (h : Wider d x) {t : Nat → Int} (ht : d.inR t) : x.inR t := fun m hm => by
  rw [← h.like.nw, ← h.like.nl] at hm
  have := ht m hm
  unfold DayD.ulo DayD.uhi at *
  rw [← h.like.nw]
  by_cases hc : m < d.nw
  · rw [if_pos hc, if_pos hc] at *
    have := h.wom m hc
    omega
  · rw [if_neg hc, if_neg hc] at *
    have := h.lot (m - d.nw) (by omega)
    omega
theorem Wider.okC (h : Wider d x) (f : Nat → Int) {j : Nat} (hj : j < d.nc) (ho : d.okC f j = true) : x.okC f j = true := by
  unfold DayD.okC DayD.rightB at *
  rw [← h.like.tru, ← h.like.tally, h.ck, h.cw]
  simp only [inB, Bool.and_eq_true, decide_eq_true_eq] at *
  have := h.cnt j hj
  omega
theorem Wider.cut (h : Wider d x) (t : Nat → Int) : cutF (x.nw + x.nl) t = cutF (d.nw + d.nl) t := by rw [h.like.nw, h.like.nl]
theorem Wider.outs (h : Wider d x) (hn : d.nc ≤ 5) : ∀ f, f ∈ d.seen.outs → f ∈ x.seen.outs := fun f hf => by
  obtain ⟨t, h1, h2, h3⟩ := (seen_out _ f).1 hf
  rw [wrong_no hn] at h3
  refine (seen_out x f).2 ⟨t, h.inR h1, by rw [h.cut]; exact h2, (wrong_no (by rw [h.nc]; exact hn) f).2 fun j hj => ?_⟩
  rw [h.nc] at hj
  exact h.okC f hj (h3 j hj)
theorem Wider.leave (h : Wider d x) (hn : d.nc ≤ 5) {l m : List Nat} (hl : (risL d.nc).find? (leaveQ d.seen.E) = some l) (hm : (risL x.nc).find? (leaveQ x.seen.E) = some m) : m.length ≤ l.length := by
  obtain ⟨il, ql⟩ := find_in hl
  refine find_short (by rw [h.nc]; exact hn) hm (by rw [h.nc]; exact il) ?_
  obtain ⟨t, ht, h2⟩ := (leaveQ_iff hn l).1 ql
  refine (leaveQ_iff (by rw [h.nc]; exact hn) l).2 ⟨t, h.inR ht, fun j hj hjl => ?_⟩
  rw [h.nc] at hj
  rw [h.cut]
  exact h.okC _ hj (h2 j hj hjl)
end Go.Fz
namespace Go.Fz
open Go.Proofs
set_option maxRecDepth 100000
set_option linter.unusedVariables false
def DayD.wW (d : DayD) (k : Nat) (a b : Int) : DayD := { d with wlo := setI d.wlo k a, whi := setI d.whi k b }
def DayD.wL (d : DayD) (k : Nat) (a b : Int) : DayD := { d with llo := setI d.llo k a, lhi := setI d.lhi k b }
def DayD.wC (d : DayD) (k : Nat) (a b : Int) : DayD := { d with clo := setI d.clo k a, chi := setI d.chi k b }
theorem flat_wW (d : DayD) (k : Nat) (a b : Int) (hk : k < d.nw) : ((flatG 2 (womC d) d.nw).set (k * 2 + 0) (iV a)).set (k * 2 + 1) (iV b) = flatG 2 (womC (d.wW k a b)) d.nw := by
  have e1 := flatG_set (g := womC d) (g' := fun i j => if i = k ∧ j = 0 then iV a else womC d i j) (v := iV a) hk (show 0 < 2 by omega) (if_pos ⟨rfl, rfl⟩) (fun i j _ _ h => if_neg h)
  have e2 := flatG_set (g := fun i j => if i = k ∧ j = 0 then iV a else womC d i j) (g' := womC (d.wW k a b)) (v := iV b) hk (show 1 < 2 by omega) (by show iV (setI d.whi k b k) = _; rw [setI_self]) (fun i j hi hj h => by
    by_cases hik : i = k
    · subst hik
      match j, hj, h with
      | 0, _, _ => show iV (setI d.wlo i a i) = if i = i ∧ 0 = 0 then iV a else _; rw [setI_self, if_pos ⟨rfl, rfl⟩]
      | 1, _, h => exact absurd ⟨rfl, rfl⟩ h
      | j + 2, hj, _ => omega
    · show _ = if i = k ∧ j = 0 then iV a else _
      rw [if_neg (fun h => hik h.1)]
      match j, hj with
      | 0, _ => show iV (setI d.wlo k a i) = iV (d.wlo i); rw [setI_ne hik]
      | 1, _ => show iV (setI d.whi k b i) = iV (d.whi i); rw [setI_ne hik]
      | j + 2, hj => omega)
  rw [e1, e2]
theorem flat_wL (d : DayD) (k : Nat) (a b : Int) (hk : k < d.nl) : ((flatG 3 (lotC d) d.nl).set (k * 3 + 1) (iV a)).set (k * 3 + 2) (iV b) = flatG 3 (lotC (d.wL k a b)) d.nl := by
  have e1 := flatG_set (g := lotC d) (g' := fun i j => if i = k ∧ j = 1 then iV a else lotC d i j) (v := iV a) hk (show 1 < 3 by omega) (if_pos ⟨rfl, rfl⟩) (fun i j _ _ h => if_neg h)
  have e2 := flatG_set (g := fun i j => if i = k ∧ j = 1 then iV a else lotC d i j) (g' := lotC (d.wL k a b)) (v := iV b) hk (show 2 < 3 by omega) (by show iV (setI d.lhi k b k) = _; rw [setI_self]) (fun i j hi hj h => by
    by_cases hik : i = k
    · subst hik
      match j, hj, h with
      | 0, _, _ => show lotC d i 0 = if i = i ∧ 0 = 1 then iV a else _; rw [if_neg (by omega)]
      | 1, _, _ => show iV (setI d.llo i a i) = if i = i ∧ 1 = 1 then iV a else _; rw [setI_self, if_pos ⟨rfl, rfl⟩]
      | 2, _, h => exact absurd ⟨rfl, rfl⟩ h
      | j + 3, hj, _ => omega
    · show _ = if i = k ∧ j = 1 then iV a else _
      rw [if_neg (fun h => hik h.1)]
      match j, hj with
      | 0, _ => rfl
      | 1, _ => show iV (setI d.llo k a i) = iV (d.llo i); rw [setI_ne hik]
      | 2, _ => show iV (setI d.lhi k b i) = iV (d.lhi i); rw [setI_ne hik]
      | j + 3, hj => omega)
  rw [e1, e2]
theorem flat_wC (d : DayD) (k : Nat) (a b : Int) (hk : k < d.nc) : ((flatG 4 (cntC d) d.nc).set (k * 4 + 2) (iV a)).set (k * 4 + 3) (iV b) = flatG 4 (cntC (d.wC k a b)) d.nc := by
  have e1 := flatG_set (g := cntC d) (g' := fun i j => if i = k ∧ j = 2 then iV a else cntC d i j) (v := iV a) hk (show 2 < 4 by omega) (if_pos ⟨rfl, rfl⟩) (fun i j _ _ h => if_neg h)
  have e2 := flatG_set (g := fun i j => if i = k ∧ j = 2 then iV a else cntC d i j) (g' := cntC (d.wC k a b)) (v := iV b) hk (show 3 < 4 by omega) (by show iV (setI d.chi k b k) = _; rw [setI_self]) (fun i j hi hj h => by
    by_cases hik : i = k
    · subst hik
      match j, hj, h with
      | 0, _, _ => show cntC d i 0 = if i = i ∧ 0 = 2 then iV a else _; rw [if_neg (by omega)]
      | 1, _, _ => show cntC d i 1 = if i = i ∧ 1 = 2 then iV a else _; rw [if_neg (by omega)]
      | 2, _, _ => show iV (setI d.clo i a i) = if i = i ∧ 2 = 2 then iV a else _; rw [setI_self, if_pos ⟨rfl, rfl⟩]
      | 3, _, h => exact absurd ⟨rfl, rfl⟩ h
      | j + 4, hj, _ => omega
    · show _ = if i = k ∧ j = 2 then iV a else _
      rw [if_neg (fun h => hik h.1)]
      match j, hj with
      | 0, _ => rfl
      | 1, _ => rfl
      | 2, _ => show iV (setI d.clo k a i) = iV (d.clo i); rw [setI_ne hik]
      | 3, _ => show iV (setI d.chi k b i) = iV (d.chi i); rw [setI_ne hik]
      | j + 4, hj => omega)
  rw [e1, e2]
def wiM (x0 lw hg : Int) : List (Nat × AV) := [(1, .lit (.int .u8 x0)), (3, .ptr 0 0), (7, .ptr 1 0), (8, iV lw), (9, iV hg)]
set_option maxHeartbeats 4000000 in
theorem wi_4 (x0 x1 lw hg : Int) (S : St) (g : Nat → AV) (O : Ar) (hO : O = std) (hlw : O.bin .rem .i64 (O.conv .i64 x1) 3 = lw) (hhg : O.bin .rem .i64 (O.bin .quo .i64 (O.conv .i64 x1) 4) 3 = hg) (h : AllP (fun p => g p.1 = p.2) (wiL x0 x1)) :
    SW Try.prog none (nthC 4 (bodyF Try.f11)) (midK 223 (wiM x0 lw hg) S) ⟨⟨223, g⟩, []⟩ S := by
  obtain ⟨g1, g2, g3, g7, _⟩ := h
  simp only at g1 g2 g3 g7
  rw [← updT_self g1, ← updT_self g2, ← updT_self g3, ← updT_self g7]
  refine SW.run tok hO (by cbv <;> rfl) (by repeat (first | exact trivial | (show (_ : Int) ≠ 0; decide) | refine ⟨?_, ?_⟩)) ?_
  exact ⟨rfl, _, rfl, ⟨rfl, rfl, rfl, congrArg (fun z => AV.lit (.int .i64 z)) hlw, congrArg (fun z => AV.lit (.int .i64 z)) hhg, trivial⟩, rfl⟩
set_option maxHeartbeats 4000000 in
theorem wi_5s (x0 lw hg : Int) (S : St) (g : Nat → AV) (O : Ar) (hO : O = std) (hs : O.cmp .eql (O.bin .rem .u8 x0 3) 0 = false) (h : AllP (fun p => g p.1 = p.2) (wiM x0 lw hg)) :
    SW Try.prog none (nthC 5 (bodyF Try.f11)) (midK 223 (wiM x0 lw hg) S) ⟨⟨223, g⟩, []⟩ S := by
  obtain ⟨g1, g3, g7, g8, g9, _⟩ := h
  simp only at g1 g3 g7 g8 g9
  rw [← updT_self g1, ← updT_self g3, ← updT_self g7, ← updT_self g8, ← updT_self g9]
  refine SW.seqRun tok hO (by cbv <;> rfl) (by repeat (first | exact trivial | (show (_ : Int) ≠ 0; decide) | refine ⟨?_, ?_⟩)) ?_
  refine SW.condS (by cbv <;> rfl) (fun h => absurd (show false = true from hs.symm.trans h) (by decide)) (fun _ => SW.skip ?_)
  exact ⟨rfl, _, rfl, ⟨rfl, rfl, rfl, rfl, rfl, trivial⟩, rfl⟩
set_option maxHeartbeats 4000000 in
theorem wi_6s (d : DayD) (x0 lw hg : Int) (W C : AV)  (nn zz : Nat) (ee : Bool) (ff : Nat → Nat → AV) (g : Nat → AV) (O : Ar) (hO : O = std) (hs : O.cmp .eql (O.bin .rem .u8 x0 3) 1 = false ∨ nn = 0) (h : AllP (fun p => g p.1 = p.2) (wiM x0 lw hg)) :
    SW Try.prog none (nthC 6 (bodyF Try.f11)) (midK 223 (wiM x0 lw hg) (wiS d [] W (.isl nn zz ee ff) C 5)) ⟨⟨223, g⟩, []⟩ (wiS d [] W (.isl nn zz ee ff) C 5) := by
  obtain ⟨g1, g3, g7, g8, g9, _⟩ := h
  simp only at g1 g3 g7 g8 g9
  rw [← updT_self g1, ← updT_self g3, ← updT_self g7, ← updT_self g8, ← updT_self g9]
  refine SW.seqRun tok hO (by cbv <;> rfl) (by trivial) ?_
  refine SW.seqRun tok hO (by cbv <;> rfl) (by repeat (first | exact trivial | (show (_ : Int) ≠ 0; decide) | refine ⟨?_, ?_⟩)) ?_
  rcases hs with hs | hs
  · refine OpsW.splitG (by cbv <;> rfl) (fun h => absurd (show false = true from hs.symm.trans h) (by decide)) (fun _ => ?_)
    refine OpsW.run tok hO (by cbv <;> rfl) (by trivial) ?_
    refine SW.condS (by cbv <;> rfl) (fun h => ?_) (fun _ => SW.skip ?_)
    · first | exact absurd h (by decide) | exact absurd (show false = true from hs.symm.trans h) (by decide)
    exact ⟨rfl, _, rfl, ⟨rfl, rfl, rfl, rfl, rfl, trivial⟩, rfl⟩
  · have hz : O.cmp .gtr (Int.ofNat nn) 0 = false := by subst hO; subst hs; rfl
    refine OpsW.splitG (by cbv <;> rfl) (fun _ => ?_) (fun h => ?_)
    · refine OpsW.run tok hO (by cbv <;> rfl) (by trivial) ?_
      refine SW.condS (by cbv <;> rfl) (fun h => absurd (show false = true from hz.symm.trans h) (by decide)) (fun _ => SW.skip ?_)
      exact ⟨rfl, _, rfl, ⟨rfl, rfl, rfl, rfl, rfl, trivial⟩, rfl⟩
    · refine OpsW.run tok hO (by cbv <;> rfl) (by trivial) ?_
      refine SW.condS (by cbv <;> rfl) (fun h => ?_) (fun _ => SW.skip ?_)
      · exact absurd h (by decide)
      exact ⟨rfl, _, rfl, ⟨rfl, rfl, rfl, rfl, rfl, trivial⟩, rfl⟩
set_option maxHeartbeats 4000000 in
theorem wi_6c (d : DayD) (x0 lw hg : Int) (W C : AV) (GC : List AV) (nn zz : Nat) (ee : Bool) (ff : Nat → Nat → AV) (g : Nat → AV) (O : Ar) (hO : O = std) (hs : O.cmp .eql (O.bin .rem .u8 x0 3) 1 = false ∨ nn = 0) (h : AllP (fun p => g p.1 = p.2) (wiM x0 lw hg)) :
    SW Try.prog none (nthC 6 (bodyF Try.f11)) (midK 223 (wiM x0 lw hg) (wiS d [(4, .cells none false GC)] W (.isl nn zz ee ff) C 5)) ⟨⟨223, g⟩, []⟩ (wiS d [(4, .cells none false GC)] W (.isl nn zz ee ff) C 5) := by
  obtain ⟨g1, g3, g7, g8, g9, _⟩ := h
  simp only at g1 g3 g7 g8 g9
  rw [← updT_self g1, ← updT_self g3, ← updT_self g7, ← updT_self g8, ← updT_self g9]
  refine SW.seqRun tok hO (by cbv <;> rfl) (by trivial) ?_
  refine SW.seqRun tok hO (by cbv <;> rfl) (by repeat (first | exact trivial | (show (_ : Int) ≠ 0; decide) | refine ⟨?_, ?_⟩)) ?_
  rcases hs with hs | hs
  · refine OpsW.splitG (by cbv <;> rfl) (fun h => absurd (show false = true from hs.symm.trans h) (by decide)) (fun _ => ?_)
    refine OpsW.run tok hO (by cbv <;> rfl) (by trivial) ?_
    refine SW.condS (by cbv <;> rfl) (fun h => ?_) (fun _ => SW.skip ?_)
    · first | exact absurd h (by decide) | exact absurd (show false = true from hs.symm.trans h) (by decide)
    exact ⟨rfl, _, rfl, ⟨rfl, rfl, rfl, rfl, rfl, trivial⟩, rfl⟩
  · have hz : O.cmp .gtr (Int.ofNat nn) 0 = false := by subst hO; subst hs; rfl
    refine OpsW.splitG (by cbv <;> rfl) (fun _ => ?_) (fun h => ?_)
    · refine OpsW.run tok hO (by cbv <;> rfl) (by trivial) ?_
      refine SW.condS (by cbv <;> rfl) (fun h => absurd (show false = true from hz.symm.trans h) (by decide)) (fun _ => SW.skip ?_)
      exact ⟨rfl, _, rfl, ⟨rfl, rfl, rfl, rfl, rfl, trivial⟩, rfl⟩
    · refine OpsW.run tok hO (by cbv <;> rfl) (by trivial) ?_
      refine SW.condS (by cbv <;> rfl) (fun h => ?_) (fun _ => SW.skip ?_)
      · exact absurd h (by decide)
      exact ⟨rfl, _, rfl, ⟨rfl, rfl, rfl, rfl, rfl, trivial⟩, rfl⟩
set_option maxHeartbeats 4000000 in
theorem wi_7s (d : DayD) (x0 lw hg : Int) (W L : AV)  (nn zz : Nat) (ee : Bool) (ff : Nat → Nat → AV) (g : Nat → AV) (O : Ar) (hO : O = std) (hs : O.cmp .eql (O.bin .rem .u8 x0 3) 2 = false ∨ nn = 0) (h : AllP (fun p => g p.1 = p.2) (wiM x0 lw hg)) :
    SW Try.prog none (nthC 7 (bodyF Try.f11)) (midK 223 (wiM x0 lw hg) (wiS d [] W L (.isl nn zz ee ff) 5)) ⟨⟨223, g⟩, []⟩ (wiS d [] W L (.isl nn zz ee ff) 5) := by
  obtain ⟨g1, g3, g7, g8, g9, _⟩ := h
  simp only at g1 g3 g7 g8 g9
  rw [← updT_self g1, ← updT_self g3, ← updT_self g7, ← updT_self g8, ← updT_self g9]
  refine SW.seqRun tok hO (by cbv <;> rfl) (by trivial) ?_
  refine SW.seqRun tok hO (by cbv <;> rfl) (by repeat (first | exact trivial | (show (_ : Int) ≠ 0; decide) | refine ⟨?_, ?_⟩)) ?_
  rcases hs with hs | hs
  · refine OpsW.splitG (by cbv <;> rfl) (fun h => absurd (show false = true from hs.symm.trans h) (by decide)) (fun _ => ?_)
    refine OpsW.run tok hO (by cbv <;> rfl) (by trivial) ?_
    refine SW.condS (by cbv <;> rfl) (fun h => ?_) (fun _ => SW.skip ?_)
    · first | exact absurd h (by decide) | exact absurd (show false = true from hs.symm.trans h) (by decide)
    exact ⟨rfl, _, rfl, ⟨rfl, rfl, rfl, rfl, rfl, trivial⟩, rfl⟩
  · have hz : O.cmp .gtr (Int.ofNat nn) 0 = false := by subst hO; subst hs; rfl
    refine OpsW.splitG (by cbv <;> rfl) (fun _ => ?_) (fun h => ?_)
    · refine OpsW.run tok hO (by cbv <;> rfl) (by trivial) ?_
      refine SW.condS (by cbv <;> rfl) (fun h => absurd (show false = true from hz.symm.trans h) (by decide)) (fun _ => SW.skip ?_)
      exact ⟨rfl, _, rfl, ⟨rfl, rfl, rfl, rfl, rfl, trivial⟩, rfl⟩
    · refine OpsW.run tok hO (by cbv <;> rfl) (by trivial) ?_
      refine SW.condS (by cbv <;> rfl) (fun h => ?_) (fun _ => SW.skip ?_)
      · exact absurd h (by decide)
      exact ⟨rfl, _, rfl, ⟨rfl, rfl, rfl, rfl, rfl, trivial⟩, rfl⟩
set_option maxHeartbeats 16000000 in
theorem wi_5w (d : DayD) (x0 lw hg : Int) (L C : AV) (k : Nat) (hk : k < d.nw) (hN : d.nw < 1000) (a b : Int) (G G2 : List AV) (hG : G = flatG 2 (womC d) d.nw) (hG2 : G2 = flatG 2 (womC (d.wW k a b)) d.nw) (g : Nat → AV) (O : Ar) (hO : O = std)
    (hs : O.cmp .eql (O.bin .rem .u8 x0 3) 0 = true) (hK : O.bin .rem .i64 (O.bin .quo .i64 (O.conv .i64 x0) 3) (Int.ofNat d.nw) = Int.ofNat k) (ha : O.mx 1 (O.bin .sub .i64 (d.wlo k) lw) = a) (hb : O.mn 60 (O.bin .add .i64 (d.whi k) hg) = b) (h : AllP (fun p => g p.1 = p.2) (wiM x0 lw hg)) :
    SW Try.prog none (nthC 5 (bodyF Try.f11)) (midK 223 (wiM x0 lw hg) (wiS d [(2, .cells none false G2)] (.sl 2 0 d.nw 2 false) L C 5)) ⟨⟨223, g⟩, []⟩ (wiS d [(2, .cells none false G)] (.sl 2 0 d.nw 2 false) L C 5) := by
  obtain ⟨g1, g3, g7, g8, g9, _⟩ := h
  simp only at g1 g3 g7 g8 g9
  rw [← updT_self g1, ← updT_self g3, ← updT_self g7, ← updT_self g8, ← updT_self g9]
  have hlen : G.length = d.nw * 2 := by rw [hG, flatG_length]
  have hle : k * 2 + 2 ≤ d.nw * 2 := by
    have := Nat.mul_le_mul_right 2 (show k + 1 ≤ d.nw from hk)
    omega
  have hc0 : G[k * 2 + 0]? = some (iV (d.wlo k)) := by rw [hG]; exact flatG_get 2 _ _ k 0 hk (by omega)
  have hc1 : G[k * 2 + 1]? = some (iV (d.whi k)) := by rw [hG]; exact flatG_get 2 _ _ k 1 hk (by omega)
  have hl0 : ∀ q, q = 0 + k * 2 → G[q + 0]? = some (iV (d.wlo k)) := fun q h => by rw [← hc0, h]; congr 1; omega
  have hl1 : ∀ q, q = 0 + k * 2 → G[q + 1]? = some (iV (d.whi k)) := fun q h => by rw [← hc1, h]; congr 1; omega
  have hb0 : ∀ q, q = 0 + k * 2 → q + 0 < G.length := fun q h => by rw [hlen, h]; omega
  have hb1 : ∀ q, q = 0 + k * 2 → q + 1 < G.length := fun q h => by rw [hlen, h]; omega
  refine SW.seqRun tok hO (by cbv <;> rfl) (by repeat (first | exact trivial | (show (_ : Int) ≠ 0; decide) | refine ⟨?_, ?_⟩)) ?_
  refine SW.condS (by cbv <;> rfl) (fun _ => ?_) (fun h => absurd (show true = false from hs.symm.trans h) (by decide))
  have hfin : ∀ q, q = 0 + k * 2 → ∀ G1, G1 = G.set (q + 0) (iV (O.mx 1 (O.bin .sub .i64 (d.wlo k) lw))) → ∀ G3, G3 = G1.set (q + 1) (iV (O.mn 60 (O.bin .add .i64 (d.whi k) hg))) → G3 = G2 := fun q hq G1 h1 G3 h3 => by
    rw [h3, h1, ha, hb, hG, hG2, show q + 1 = k * 2 + 1 by omega, show q + 0 = k * 2 + 0 by omega]
    exact flat_wW d k a b hk
  have hne : Int.ofNat d.nw ≠ 0 := by
    have : (d.nw : Int) ≠ 0 := by omega
    exact this
  refine SW.seqRunD tok mixed hO (by kernel_rfl) (by cbv <;> rfl) (by repeat (first | exact trivial | exact hne | (show (_ : Int) ≠ 0; decide) | refine ⟨?_, ?_⟩)) ?_
  refine AnyE.idxSl tok 9 (n := k) (by rfl) ((show idxAt _ 9 _ = some (22, .sl 2 0 d.nw 2 false, .lit (.int .i64 (O.bin .rem .i64 (O.bin .quo .i64 (O.conv .i64 x0) 3) (Int.ofNat d.nw)))) from by cbv <;> rfl).trans (congrArg (fun z => some (22, AV.sl 2 0 d.nw 2 false, AV.lit (.int .i64 z))) hK)) (by kernel_rfl) hk (by cbv <;> rfl) fun q hq => ?_
  refine AnyE.run tok hO (by rfl) (by cbv <;> rfl) (by trivial) ?_
  refine SW.runD tok mixed hO (by kernel_rfl) (by cbv <;> rfl) (by trivial) ?_
  refine AnyE.many [3, 10] (by cbv <;> rfl) (by rfl) ⟨?_, ?_, trivial⟩
  · refine PickE.nilC (by cbv <;> rfl) (by cbv <;> rfl) ?_ ?_
    · exact (by repeat (first | exact trivial | refine And.intro (by first | exact lv_of hO (by cbv <;> rfl) (by trivial) | (cbv <;> rfl)) ?_))
    refine AnyE.runN tok hO 1 (by rfl) (by cbv <;> rfl) (by trivial) ?_
    refine AnyE.ldD tok (by rfl) 5 (by cbv <;> rfl) (load_at (by kernel_rfl) (by rfl) (hl0 _ hq)) (by kernel_rfl) ?_
    refine AnyE.run tok hO (by rfl) (by cbv <;> rfl) (by trivial) ?_
    refine AnyE.nilC (by cbv <;> rfl) (by cbv <;> rfl) ?_
    refine AnyE.runN tok hO 1 (by rfl) (by cbv <;> rfl) (by trivial) ?_
    refine AnyE.ldD tok (by rfl) 12 (by cbv <;> rfl) (load_at (by kernel_rfl) (by rfl) (hl1 _ hq)) (by kernel_rfl) ?_
    refine AnyE.run tok hO (by rfl) (by cbv <;> rfl) (by trivial) ?_
    refine AnyE.nilC (by cbv <;> rfl) (by cbv <;> rfl) ?_
    refine AnyE.run tok hO (by rfl) (by cbv <;> rfl) (by trivial) ?_
    refine AnyE.stoK (id := 2) (G := G) tok (by cbv <;> rfl) (by cbv <;> rfl) (by kernel_rfl) (by rfl) ?_ fun G1 hG1 => ⟨?_, ?_⟩
    · exact hb0 _ hq
    · exact (by repeat (first | exact trivial | refine And.intro (by first | exact lv_of hO (by cbv <;> rfl) (by trivial) | (cbv <;> rfl)) ?_))
    refine AnyE.run tok hO (by rfl) (by cbv <;> rfl) (by trivial) ?_
    refine AnyE.nilC (by cbv <;> rfl) (by cbv <;> rfl) ?_
    refine AnyE.run tok hO (by rfl) (by cbv <;> rfl) (by trivial) ?_
    refine AnyE.sto (id := 2) (G := G1) tok (by cbv <;> rfl) (by cbv <;> rfl) (by kernel_rfl) (by rfl) ?_ fun G3 hG3 => ?_
    · rw [hG1, List.length_set]; exact hb1 _ hq
    refine AnyE.done (by rfl) ?_
    refine ⟨rfl, _, rfl, ⟨rfl, rfl, rfl, rfl, rfl, trivial⟩, ?_⟩
    rw [← hfin _ hq G1 hG1 G3 hG3]
    rfl
  · refine PickE.nilC (by cbv <;> rfl) (by cbv <;> rfl) ?_ ?_
    · exact (by repeat (first | exact trivial | refine And.intro (by first | exact lv_of hO (by cbv <;> rfl) (by trivial) | (cbv <;> rfl)) ?_))
    refine AnyE.runN tok hO 1 (by rfl) (by cbv <;> rfl) (by trivial) ?_
    refine AnyE.ldD tok (by rfl) 12 (by cbv <;> rfl) (load_at (by kernel_rfl) (by rfl) (hl1 _ hq)) (by kernel_rfl) ?_
    refine AnyE.run tok hO (by rfl) (by cbv <;> rfl) (by trivial) ?_
    refine AnyE.nilC (by cbv <;> rfl) (by cbv <;> rfl) ?_
    refine AnyE.runN tok hO 1 (by rfl) (by cbv <;> rfl) (by trivial) ?_
    refine AnyE.ldD tok (by rfl) 5 (by cbv <;> rfl) (load_at (by kernel_rfl) (by rfl) (hl0 _ hq)) (by kernel_rfl) ?_
    refine AnyE.run tok hO (by rfl) (by cbv <;> rfl) (by trivial) ?_
    refine AnyE.nilC (by cbv <;> rfl) (by cbv <;> rfl) ?_
    refine AnyE.run tok hO (by rfl) (by cbv <;> rfl) (by trivial) ?_
    refine AnyE.stoK (id := 2) (G := G) tok (by cbv <;> rfl) (by cbv <;> rfl) (by kernel_rfl) (by rfl) ?_ fun G1 hG1 => ⟨?_, ?_⟩
    · exact hb0 _ hq
    · exact (by repeat (first | exact trivial | refine And.intro (by first | exact lv_of hO (by cbv <;> rfl) (by trivial) | (cbv <;> rfl)) ?_))
    refine AnyE.run tok hO (by rfl) (by cbv <;> rfl) (by trivial) ?_
    refine AnyE.nilC (by cbv <;> rfl) (by cbv <;> rfl) ?_
    refine AnyE.run tok hO (by rfl) (by cbv <;> rfl) (by trivial) ?_
    refine AnyE.sto (id := 2) (G := G1) tok (by cbv <;> rfl) (by cbv <;> rfl) (by kernel_rfl) (by rfl) ?_ fun G3 hG3 => ?_
    · rw [hG1, List.length_set]; exact hb1 _ hq
    refine AnyE.done (by rfl) ?_
    refine ⟨rfl, _, rfl, ⟨rfl, rfl, rfl, rfl, rfl, trivial⟩, ?_⟩
    rw [← hfin _ hq G1 hG1 G3 hG3]
    rfl
end Go.Fz
namespace Go.Fz
open Go.Proofs
set_option maxRecDepth 100000
set_option linter.unusedVariables false
end Go.Fz
namespace Go.Fz
open Go.Proofs
set_option maxRecDepth 100000
end Go.Fz
namespace Go.Fz
open Go.Proofs
set_option maxRecDepth 100000
theorem bounds_two {A B : DayD} (hl : Alike A B) (sA : A.small) (sB : B.small) (cA : A.check = 0) (cB : B.check = 0) (hn : A.nw < 1000) (hsub : ∀ f, f ∈ A.seen.outs → f ∈ B.seen.outs) (hA : A.seen.outs ≠ []) (hB : B.seen.outs ≠ []) :
    ∃ (X Y Z : Nat → Nat → AV) (p q r s t u v w : Int) (X2 Y2 Z2 : Nat → Nat → AV) (p2 q2 r2 s2 t2 u2 v2 w2 : Int), Pure Try.prog 18 [dayV A] (.tup [.agg [.isl A.nw 2 false X, .isl A.nw 2 false Y, .isl A.nw 2 false Z, iV p, iV q, iV r, iV s, iV t, iV u, iV v, iV w], iV 0]) ∧
      Pure Try.prog 18 [dayV B] (.tup [.agg [.isl B.nw 2 false X2, .isl B.nw 2 false Y2, .isl B.nw 2 false Z2, iV p2, iV q2, iV r2, iV s2, iV t2, iV u2, iV v2, iV w2], iV 0]) ∧
      Pure Try.prog 48 [.agg [.isl A.nw 2 false X, .isl A.nw 2 false Y, .isl A.nw 2 false Z, iV p, iV q, iV r, iV s, iV t, iV u, iV v, iV w], .agg [.isl B.nw 2 false X2, .isl B.nw 2 false Y2, .isl B.nw 2 false Z2, iV p2, iV q2, iV r2, iV s2, iV t2, iV u2, iV v2, iV w2]] (.lit (.bool true)) :=
  ⟨_, _, _, _, _, _, _, _, _, _, _, _, _, _, _, _, _, _, _, _, _, _, boundsV_ok A sA cA hA, boundsV_ok B sB cB hB, narrow_ok hl hn hsub hA⟩
theorem bounds_none {d : DayD} (hs : d.small) (hc : d.check = 0) (ho : d.seen.outs = []) : ∃ (n : Nat) (X Y Z : Nat → Nat → AV) (p q r s t u v w : Int), Pure Try.prog 18 [dayV d] (.tup [.agg [.isl n 2 false X, .isl n 2 false Y, .isl n 2 false Z, iV p, iV q, iV r, iV s, iV t, iV u, iV v, iV w], iV 11]) := by
  have h := boundsP_ok d hs hc
  rw [show d.bndR = .agg bnd0 from if_pos ho, show d.bndE = 11 from if_pos ho] at h
  have hg : ∀ i k : Nat, (fun _ _ : Nat => iV 0) i k = iV 0 := fun _ _ => rfl
  exact ⟨0, fun _ _ => iV 0, fun _ _ => iV 0, fun _ _ => iV 0, _, _, _, _, _, _, _, _, h.res (Eqv.tup (.cons (Eqv.agg (.cons Eqv.nil (.cons Eqv.nil (.cons Eqv.nil (.cons (Eqv.refl _) (.cons (Eqv.refl _) (.cons (Eqv.refl _) (.cons (Eqv.refl _) (.cons (Eqv.refl _) (.cons (Eqv.refl _) (.cons (Eqv.refl _) (.cons (Eqv.refl _) .nil)))))))))))) (.cons (Eqv.refl _) .nil)))⟩
theorem bounds_any {d : DayD} (hs : d.small) (hc : d.check = 0) : ∃ (n : Nat) (X Y Z : Nat → Nat → AV) (p q r s t u v w e : Int), (e = 0 ∨ e = 11) ∧ Pure Try.prog 18 [dayV d] (.tup [.agg [.isl n 2 false X, .isl n 2 false Y, .isl n 2 false Z, iV p, iV q, iV r, iV s, iV t, iV u, iV v, iV w], iV e]) := by
  by_cases ho : d.seen.outs = []
  · obtain ⟨n, X, Y, Z, p, q, r, s, t, u, v, w, h⟩ := bounds_none hs hc ho
    exact ⟨n, X, Y, Z, p, q, r, s, t, u, v, w, 11, .inr rfl, h⟩
  · obtain ⟨X, Y, Z, p, q, r, s, t, u, v, w, h⟩ := bounds_some d hs hc ho
    exact ⟨_, X, Y, Z, p, q, r, s, t, u, v, w, 0, .inl rfl, h⟩
end Go.Fz
namespace Go.Fz
open Go.Proofs
set_option maxRecDepth 100000
set_option linter.unusedVariables false
set_option maxHeartbeats 64000000 in
theorem wide_tail (haw : Pure Try.prog 17 [] (.lit (.bool true))) (d x : DayD) (hw : Wider d x) (gd : d.Good) (hc : d.check = 0) (a1 b1 : Nat) (c1 : Bool) (h1 : Nat → Nat → AV) (a2 b2 : Nat) (c2 : Bool) (h2 : Nat → Nat → AV) (a3 b3 : Nat) (c3 : Bool) (h3 : Nat → Nat → AV)
    (hV : Eqvs [.agg [iV d.hand, iV d.flat, .isl a1 b1 c1 h1, .isl a2 b2 c2 h2, .isl a3 b3 c3 h3]] [dayV x]) (g : Nat → AV) (O : Ar) (hO : O = std) (hh : AllP (fun p => g p.1 = p.2) [(3, .ptr 0 0), (7, .ptr 1 0)]) :
    SW Try.prog none (restC 8 (bodyF Try.f11)) (retQ T Try.f11 (fun v st' => Eqv (frz st'.h (fun _ => true) 3 v) (.lit (.bool true)))) ⟨⟨223, g⟩, []⟩ (wiS d [] (.isl a1 b1 c1 h1) (.isl a2 b2 c2 h2) (.isl a3 b3 c3 h3) 5) := by
  obtain ⟨g3, g7, _⟩ := hh
  simp only at g3 g7
  rw [← updT_self g3, ← updT_self g7]
  have hrx := Pure.eqv (ready_ok x) hV
  generalize hRx : x.readyB = rx at hrx
  have hnx : O.not rx = !rx := by subst hO; rfl
  refine SW.seq ?_
  refine SW.seqRun tok hO (by cbv <;> rfl) (by trivial) ?_
  refine OpsW.callP hrx (by cbv <;> rfl) ?_
  refine OpsW.run tok hO (by cbv <;> rfl) (by trivial) ?_
  refine SW.condS (by cbv <;> rfl) (fun hk1 => ?_) (fun hk1 => SW.skip ?_)
  · skip
    refine SW.seqRun tok hO (by cbv <;> rfl) (by trivial) ?_
    refine OpsW.callP haw (by cbv <;> rfl) ?_
    refine OpsW.run tok hO (by cbv <;> rfl) (by trivial) ?_
    exact SW.ret ⟨_, _, rfl, rfl, Eqv.refl _⟩
  have hR2 : rx = true := by have := hnx.symm.trans hk1; simpa using this
  rw [hR2] at hRx
  obtain ⟨gx, _⟩ := ready_good hRx
  have hcx : x.check = 0 := (check_eq _).trans (by simp only [DayD.readyB, Bool.and_eq_true, decide_eq_true_eq] at hRx; exact hRx.2)
  have hsm : d.small := ⟨Nat.lt_of_le_of_lt gd.nw (by decide), Nat.lt_of_le_of_lt gd.nl (by decide), Nat.lt_of_le_of_lt gd.nc (by decide)⟩
  have hsx : x.small := ⟨Nat.lt_of_le_of_lt gx.nw (by decide), Nat.lt_of_le_of_lt gx.nl (by decide), Nat.lt_of_le_of_lt gx.nc (by decide)⟩
  have hday := day_ok d (Nat.le_trans gd.nw (by decide)) (Nat.le_trans gd.nl (by decide)) (Nat.le_trans gd.nc (by decide))
  have hdayx := Pure.eqv (day_ok x (Nat.le_trans gx.nw (by decide)) (Nat.le_trans gx.nl (by decide)) (Nat.le_trans gx.nc (by decide))) hV
  have hlv := leaveA_ok d hsm hc
  have hlvx := leaveA_ok _ hsx hcx
  obtain ⟨l, hl, hlV⟩ := leave_find hc gd.nc
  obtain ⟨m, hm, hmV⟩ := leave_find hcx gx.nc
  have hLM := hw.leave gd.nc hl hm
  rw [hlV] at hlv
  rw [hmV] at hlvx
  rw [show lsV l = intsV l.length false (lI l) from rfl] at hlv
  rw [show lsV m = intsV m.length false (lI m) from rfl] at hlvx
  clear hl hm hlV hmV
  generalize lI l = fl at hlv
  generalize lI m = fm at hlvx
  generalize l.length = LL at hlv hLM
  generalize m.length = LM at hlvx hLM
  refine SW.seq ((wi_9 d a1 b1 c1 h1 a2 b2 c2 h2 a3 b3 c3 h3 _ O hO _ hday _ _ hlv ⟨rfl, rfl, trivial⟩).mono fun e f st hm => ?_)
  obtain ⟨rfl, g, rfl, hh, rfl⟩ := hm
  show SW _ _ _ _ _ _
  refine SW.seq ((wi_10 d a1 b1 c1 h1 a2 b2 c2 h2 a3 b3 c3 h3 _ O hO _ hdayx _ _ _ _ hlvx hh).mono fun e f st hm => ?_)
  clear hh
  obtain ⟨rfl, g, rfl, hh, rfl⟩ := hm
  show SW _ _ _ _ _ _
  by_cases hod : d.seen.outs = []
  · obtain ⟨n1, X, Y, Z, p, q, r, s, t, u, v, w', hbd⟩ := bounds_none hsm hc hod
    obtain ⟨n2, X2, Y2, Z2, p2, q2, r2, s2, t2, u2, v2, w2, e2, _, hbdx⟩ := bounds_any hsx hcx
    refine SW.seq ((wi_11 d a1 b1 c1 h1 a2 b2 c2 h2 a3 b3 c3 h3 _ O hO _ hday _ _ _ _ _ _ _ _ _ _ _ _ _ _ _ _ _ hbd hh).mono fun e f st hm => ?_)
    clear hh
    obtain ⟨rfl, g, rfl, hh, rfl⟩ := hm
    show SW _ _ _ _ _ _
    refine SW.seq ((wi_12 d a1 b1 c1 h1 a2 b2 c2 h2 a3 b3 c3 h3 _ O hO _ hdayx _ _ _ _ _ _ _ _ _ _ _ _ _ _ _ _ _ _ _ _ _ _ _ _ _ _ _ _ _ _ hbdx hh).mono fun e f st hm => ?_)
    clear hh
    obtain ⟨rfl, g, rfl, hh, rfl⟩ := hm
    show SW _ _ _ _ _ _
    refine SW.seq ((wi_13b d a1 b1 c1 h1 a2 b2 c2 h2 a3 b3 c3 h3 _ O hO _ _ _ _ _ _ _ _ _ _ _ _ _ _ _ _ _ _ _ _ _ _ _ _ _ _ _ _ _ hLM hh).mono fun e f st hm => ?_)
    clear hh
    obtain ⟨rfl, g, rfl, hh, rfl⟩ := hm
    show SW _ _ _ _ _ _
    exact wi_14e haw d a1 b1 c1 h1 a2 b2 c2 h2 a3 b3 c3 h3 _ O hO _ _ _ _ _ _ _ _ _ _ _ _ _ _ _ _ _ _ _ _ _ _ _ _ _ hh
  have hsub := hw.outs gd.nc
  have hox : x.seen.outs ≠ [] := fun e => by
    obtain ⟨f, hf⟩ := List.exists_mem_of_ne_nil _ hod
    have := hsub f hf
    rw [e] at this; cases this
  obtain ⟨X, Y, Z, p, q, r1, s, t, u, v, w', X2, Y2, Z2, p2, q2, r2, s2, t2, u2, v2, w2, hbd, hbdx, hnar⟩ := bounds_two hw.like hsm hsx hc hcx (Nat.lt_of_le_of_lt gd.nw (by decide)) hsub hod hox
  refine SW.seq ((wi_11 d a1 b1 c1 h1 a2 b2 c2 h2 a3 b3 c3 h3 _ O hO _ hday _ _ _ _ _ _ _ _ _ _ _ _ _ _ _ _ _ hbd hh).mono fun e f st hm => ?_)
  clear hh
  obtain ⟨rfl, g, rfl, hh, rfl⟩ := hm
  show SW _ _ _ _ _ _
  refine SW.seq ((wi_12 d a1 b1 c1 h1 a2 b2 c2 h2 a3 b3 c3 h3 _ O hO _ hdayx _ _ _ _ _ _ _ _ _ _ _ _ _ _ _ _ _ _ _ _ _ _ _ _ _ _ _ _ _ _ hbdx hh).mono fun e f st hm => ?_)
  clear hh
  obtain ⟨rfl, g, rfl, hh, rfl⟩ := hm
  show SW _ _ _ _ _ _
  refine SW.seq ((wi_13a d a1 b1 c1 h1 a2 b2 c2 h2 a3 b3 c3 h3 _ O hO _ _ _ _ _ _ _ _ _ _ _ _ _ _ _ _ _ _ _ _ _ _ _ _ _ _ _ _ _ hLM hh).mono fun e f st hm => ?_)
  clear hh
  obtain ⟨rfl, g, rfl, hh, rfl⟩ := hm
  show SW _ _ _ _ _ _
  exact wi_14 haw d a1 b1 c1 h1 a2 b2 c2 h2 a3 b3 c3 h3 _ O hO _ _ _ _ _ _ _ _ _ _ _ _ _ _ _ _ _ _ _ _ _ _ _ _ hnar hh
end Go.Fz
