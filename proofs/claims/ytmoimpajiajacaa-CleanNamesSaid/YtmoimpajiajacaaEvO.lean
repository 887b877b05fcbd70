/-
  THE EVALUATOR OF REGIONS, over frames that are trees. Own work of the verifier of watercress.
-/
import Derived.Test.YtmoimpajiajacaaEvN
namespace Go.Ev

section
variable {P : Program} {T : Ti} {X : St → (Operand → AV) → Oper → Option (List (AV × St))} {call : CallE}

def wantT (ops : Array Oper) (f : TF) (o : Oper) : Bool := match o.guard with
  | none => true
  | some _ => Region.wanted o (f.y ops)

theorem wantT_eq (ops : Array Oper) (f : TF) (o : Oper) : Region.wanted o (yA ops f.abs.ts) = wantT ops f o := by
  rw [TF.y_eq]
  unfold wantT
  cases hg : o.guard with
  | none => unfold Region.wanted; rw [hg]
  | some g => rfl

variable (T) in
def lightT (ops : Array Oper) (h : Hp) (f : TF) (o : Oper) : Option AV := match wantT ops f o with
  | true => evG T h f.av o
  | false => some undA

theorem lightT_eq {ops : Array Oper} {h : Hp} {f : TF} {i : Nat} {o : Oper} (ho : ops[i]? = some o) : lightV T ops h f.abs i = lightT T ops h f o := by
  unfold lightV lightT
  simp only [ho, wantT_eq, TF.av_eq]
  cases wantT ops f o <;> rfl

variable (T X call) in
def evOps2 (ops : Array Oper) : List Oper → TF → St → Option (List (TF × St))
  | [], f, st => some [(f, st)]
  | o :: l, f, st => match lightT T ops st.h f o with
    | some r => evOps2 ops l (f.put o.dst r) st
    | none => match plainB o && wantT ops f o with
      | true => match heavy T X call st f.av o with
        | some outs => bindL outs fun x => evOps2 ops l (f.put o.dst x.1) x.2
        | none => none
      | false => none

theorem evOps2_ok (hT : TOk P T) (hX : XOk P X) (hc : CallOk P call) {rd : Option Nat} {ops : Array Oper} {K : Fm → St → Prop} : ∀ (l : List Oper) (i : Nat) {f : TF} {st : St} {outs : List (TF × St)}, f.ok → l = ops.toList.drop i → evOps2 T X call ops l f st = some outs → (∀ x ∈ outs, x.1.ok → K x.1.abs x.2) →
    OpsW P rd ops (List.range' i l.length) K f.abs st
  | [], i, f, st, outs, hf, hl, h, hk => by
    simp only [evOps2, Option.some.injEq] at h
    subst h
    exact .nil (hk (f, st) (List.mem_singleton.2 rfl) hf)
  | o :: l, i, f, st, outs, hf, hl, h, hk => by
    have ho : ops[i]? = some o := by
      have h1 : (ops.toList.drop i)[0]? = some o := by rw [← hl]; rfl
      rw [List.getElem?_drop] at h1
      simpa using h1
    have hl' : l = ops.toList.drop (i + 1) := by
      have h1 : (ops.toList.drop i).drop 1 = l := by rw [← hl]; rfl
      rw [← h1, List.drop_drop]
    rw [List.length_cons, List.range'_succ]
    simp only [evOps2] at h
    split at h
    · rename_i r hr
      rw [← lightT_eq ho] at hr
      refine OpsW.lightV hT ho hr ?_
      rw [← TF.abs_put hf]
      exact evOps2_ok hT hX hc l (i + 1) (TF.put_ok hf _ _) hl' h hk
    · split at h
      · rename_i hb
        simp only [Bool.and_eq_true] at hb
        split at h
        · rename_i os hos
          rw [← TF.av_eq] at hos
          refine OpsW.cons ho (plain_defer hb.1) ((heavy_ok hT hX hc ho (by rw [wantT_eq]; exact hb.2) hos).mono fun f' st' ⟨v, hf', hm⟩ => ?_)
          subst hf'
          obtain ⟨x, h1, h2⟩ := bindL_ok h (v, st') hm
          rw [← TF.abs_put hf]
          exact evOps2_ok hT hX hc l (i + 1) (TF.put_ok hf _ _) hl' h1 fun y hy => hk y (h2 y hy)
        · cases h
      · cases h

/-! ### Drawn regions, by bits -/
def maskL (es : List Nat) : Nat := es.foldr (fun e m => (1 <<< e) ||| m) 0

theorem testBit_maskL : ∀ (es : List Nat) (i : Nat), (maskL es).testBit i = decide (i ∈ es)
  | [], i => by simp [maskL]
  | e :: es, i => by
    have ih := testBit_maskL es i
    unfold maskL at *
    rw [List.foldr_cons, Nat.testBit_or, ih, Nat.one_shiftLeft, Nat.testBit_two_pow]
    by_cases h : e = i
    · subst h; simp
    · by_cases h2 : i ∈ es <;> simp [h, h2, Ne.symm h]

theorem land_mask {es : List Nat} {L : Nat} : Nat.beq (Nat.land (maskL es) L) (maskL es) = es.all fun e => L.testBit e := by
  have h1 : Nat.beq (Nat.land (maskL es) L) (maskL es) = true ↔ (es.all fun e => L.testBit e) = true := by
    rw [show (Nat.beq (Nat.land (maskL es) L) (maskL es) = true) = (Nat.land (maskL es) L = maskL es) from propext ⟨Nat.eq_of_beq_eq_true, fun h => by rw [h]; exact Nat.beq_refl _⟩, List.all_eq_true]
    constructor
    · intro h e he
      have : (Nat.land (maskL es) L).testBit e = (maskL es).testBit e := by rw [h]
      rw [show Nat.land (maskL es) L = maskL es &&& L from rfl, Nat.testBit_and, testBit_maskL] at this
      simpa [he] using this
    · intro h
      apply Nat.eq_of_testBit_eq
      intro i
      rw [show Nat.land (maskL es) L = maskL es &&& L from rfl, Nat.testBit_and, testBit_maskL]
      by_cases hi : i ∈ es
      · simp [hi, h i hi]
      · simp [hi]
  cases h2 : Nat.beq (Nat.land (maskL es) L) (maskL es) with
  | true => exact (h1.1 h2).symm
  | false =>
    cases h3 : es.all fun e => L.testBit e with
    | true => rw [h1.2 h3] at h2; cases h2
    | false => rfl

/-- Nobody but those behind it looks at what it writes. -/
def freeB (ops : Array Oper) (M : List Nat) (i : Nat) (o : Oper) : Bool := match o.dst with
  | none => true
  | some d => (List.range ops.size).all fun j => j == i || match ops[j]? with
    | some q => !((q.looksAt ops).contains d) || (M.getD j 0).testBit i
    | none => true

structure En where
  i : Nat
  o : Oper
  em : Nat
  fr : Bool

def infoAt (ops : Array Oper) (M : List Nat) (i : Nat) : Option En := (ops[i]?).map fun o => ⟨i, o, maskL (edgesOf o), freeB ops M i o⟩
def infoL (ops : Array Oper) (M : List Nat) : List En := (List.range ops.size).filterMap (infoAt ops M)

def rdyE (L : Nat) (x : En) : Bool := Nat.beq (Nat.land x.em L) x.em

structure Inv (ops : Array Oper) (M : List Nat) (listed : Array Bool) (un : List En) (L : Nat) : Prop where
  un : un = (infoL ops M).filter fun x => !(listed.getD x.i true)
  size : listed.size = ops.size
  bits : ∀ i, L.testBit i = listed.getD i false

theorem infoAt_some {ops : Array Oper} {M : List Nat} {i : Nat} {x : En} (h : infoAt ops M i = some x) : x.i = i ∧ ops[i]? = some x.o ∧ x.em = maskL (edgesOf x.o) ∧ x.fr = freeB ops M i x.o := by
  unfold infoAt at h
  cases ho : ops[i]? with
  | none => rw [ho] at h; cases h
  | some o => rw [ho] at h; cases h; exact ⟨rfl, rfl, rfl, rfl⟩

theorem filter_info {α β : Type} {g : α → Option β} {r : α → Bool} {p : β → Bool} {fst : β → α} : ∀ (l : List α), (∀ a ∈ l, match g a with | some x => r a = p x ∧ fst x = a | none => r a = false) → l.filter r = ((l.filterMap g).filter p).map fst
  | [], _ => rfl
  | a :: l, h => by
    have ha := h a List.mem_cons_self
    have ih := filter_info l fun b hb => h b (List.mem_cons_of_mem _ hb)
    cases hg : g a with
    | none =>
      rw [hg] at ha
      rw [List.filter_cons, List.filterMap_cons, hg]
      simp only at ha
      simp only [ha, Bool.false_eq_true, if_false]
      exact ih
    | some x =>
      rw [hg] at ha
      simp only at ha
      rw [List.filter_cons, List.filterMap_cons, hg]
      simp only
      rw [List.filter_cons, ha.1]
      cases p x with
      | true => simp only [if_true, List.map_cons, ha.2, ih]
      | false => simp only [Bool.false_eq_true, if_false, ih]

theorem Inv.ready {ops : Array Oper} {M : List Nat} {listed : Array Bool} {un : List En} {L : Nat} (h : Inv ops M listed un L) : Region.ready .any ops listed = (un.filter (rdyE L)).map (·.i) := by
  rw [h.un, List.filter_filter]
  unfold infoL Region.ready
  refine filter_info _ fun i hi => ?_
  cases hx : infoAt ops M i with
  | none =>
    unfold infoAt at hx
    cases ho : ops[i]? with
    | none => simp
    | some o => rw [ho] at hx; cases hx
  | some x =>
    obtain ⟨h1, h2, h3, _⟩ := infoAt_some hx
    simp only
    refine ⟨?_, h1⟩
    rw [h2, h1]
    simp only [Option.map_some, Option.getD_some]
    unfold rdyE
    rw [h3, land_mask, Bool.and_comm]
    congr 1
    rw [Bool.eq_iff_iff, List.all_eq_true, Array.all_eq_true_iff_forall_mem]
    constructor
    · intro hA e he
      obtain ⟨y, hy, hb, rfl⟩ := mem_edges.1 he
      have := hA y hy
      simp only [hb, Bool.not_true, Bool.false_or] at this
      rw [h.bits]; exact this
    · intro hA y hy
      cases hb : Region.binds .any y with
      | false => simp
      | true =>
        have := hA y.on (mem_edges.2 ⟨y, hy, hb, rfl⟩)
        rw [h.bits] at this
        simp [this]

def dropE (i : Nat) (un : List En) : List En := un.filter fun x => !(Nat.beq x.i i)

theorem Inv.set {ops : Array Oper} {M : List Nat} {listed : Array Bool} {un : List En} {L : Nat} (h : Inv ops M listed un L) {i : Nat} (hi : i < ops.size) : Inv ops M (listed.setIfInBounds i true) (dropE i un) (Nat.lor (1 <<< i) L) := by
  have hi' : i < listed.size := by rw [h.size]; exact hi
  refine ⟨?_, by simp [h.size], fun j => ?_⟩
  · unfold dropE
    rw [h.un, List.filter_filter]
    refine List.filter_congr fun x _ => ?_
    by_cases hx : x.i = i
    · subst hx
      simp [hi']
    · have : Nat.beq x.i i = false := by
        cases hb : Nat.beq x.i i with
        | false => rfl
        | true => exact absurd (Nat.eq_of_beq_eq_true hb) hx
      rw [this, getD_set_ne true (Ne.symm hx)]
      simp
  · rw [show Nat.lor (1 <<< i) L = 1 <<< i ||| L from rfl, Nat.testBit_or, Nat.one_shiftLeft, Nat.testBit_two_pow, h.bits]
    by_cases hij : i = j
    · subst hij; simp [hi']
    · rw [getD_set_ne false hij]; simp [hij]

variable (T) in
def pendOkT (ops : Array Oper) (pend : List (Nat × AV)) (f : TF) (h : Hp) : Bool := pend.all fun p => match ops[p.1]? with
  | none => false
  | some o => match lightT T ops h f o with
    | some r => avEq r p.2
    | none => false

theorem pendOkT_of {ops : Array Oper} {pend : List (Nat × AV)} {f : TF} {h : Hp} (hp : pendOkT T ops pend f h = true) : PendOk T ops pend f.abs h := fun p hm => by
  have := List.all_eq_true.1 hp p hm
  split at this
  · cases this
  · rename_i o ho
    rw [lightT_eq ho]
    split at this
    · rename_i r hr; rw [hr, avEq_ok this]
    · cases this

variable (T) in
def pickE (ops : Array Oper) (L : Nat) (h : Hp) (f : TF) : List En → Option (En × AV)
  | [] => none
  | x :: l => match x.fr && rdyE L x with
    | false => pickE ops L h f l
    | true => match lightT T ops h f x.o with
      | some r => some (x, r)
      | none => pickE ops L h f l

theorem pickE_ok {ops : Array Oper} {L : Nat} {h : Hp} {f : TF} {x : En} {r : AV} : ∀ {l : List En}, pickE T ops L h f l = some (x, r) → x ∈ l.filter (rdyE L) ∧ x.fr = true ∧ lightT T ops h f x.o = some r := by
  intro l
  induction l with
  | nil => intro hp; cases hp
  | cons y l ih =>
    intro hp
    have later : pickE T ops L h f l = some (x, r) → x ∈ (y :: l).filter (rdyE L) ∧ x.fr = true ∧ lightT T ops h f x.o = some r := fun h1 => by
      obtain ⟨h2, h3⟩ := ih h1
      refine ⟨?_, h3⟩
      rw [List.mem_filter] at *
      exact ⟨List.mem_cons_of_mem _ h2.1, h2.2⟩
    unfold pickE at hp
    split at hp
    · exact later hp
    · rename_i hb
      simp only [Bool.and_eq_true] at hb
      split at hp
      · rename_i r' hr
        simp only [Option.some.injEq, Prod.mk.injEq] at hp
        obtain ⟨rfl, rfl⟩ := hp
        exact ⟨List.mem_filter.2 ⟨List.mem_cons_self, hb.2⟩, hb.1, hr⟩
      · exact later hp

variable (T X call) in
def evDrawn2 (ops : Array Oper) (M : List Nat) : Nat → List (Nat × AV) → List En → Nat → TF → St → Option (List (TF × St))
  | 0, pend, un, L, f, st => match pendOkT T ops pend f st.h && (un.filter (rdyE L)).isEmpty with
    | true => some [(f, st)]
    | false => none
  | fuel + 1, pend, un, L, f, st =>
    match pickE T ops L st.h f un with
    | some (x, r) => evDrawn2 ops M fuel ((x.i, r) :: pend) (dropE x.i un) (Nat.lor (1 <<< x.i) L) (f.put x.o.dst r) st
    | none => match pendOkT T ops pend f st.h with
      | false => none
      | true => match un.filter (rdyE L) with
        | [] => some [(f, st)]
        | y :: ys => bindL (y :: ys) fun x => match lightT T ops st.h f x.o with
          | some r => evDrawn2 ops M fuel (dropP M x.i pend) (dropE x.i un) (Nat.lor (1 <<< x.i) L) (f.put x.o.dst r) st
          | none => match wantT ops f x.o with
            | true => match heavy T X call st f.av x.o with
              | some outs => bindL outs fun z => evDrawn2 ops M fuel (dropP M x.i pend) (dropE x.i un) (Nat.lor (1 <<< x.i) L) (f.put x.o.dst z.1) z.2
              | none => none
            | false => none

theorem Inv.mem {ops : Array Oper} {M : List Nat} {listed : Array Bool} {un : List En} {L : Nat} (h : Inv ops M listed un L) {x : En} (hx : x ∈ un.filter (rdyE L)) : x.i ∈ Region.ready .any ops listed ∧ ops[x.i]? = some x.o ∧ x.fr = freeB ops M x.i x.o := by
  refine ⟨by rw [h.ready]; exact List.mem_map_of_mem hx, ?_⟩
  have h1 := (List.mem_filter.1 hx).1
  rw [h.un] at h1
  have h2 := (List.mem_filter.1 h1).1
  unfold infoL at h2
  rw [List.mem_filterMap] at h2
  obtain ⟨i, _, h3⟩ := h2
  obtain ⟨h4, h5, _, h6⟩ := infoAt_some h3
  rw [h4]
  exact ⟨h5, h6⟩

theorem freeB_ok {ops : Array Oper} {M : List Nat} (hM : Tidy ops M) {listed : Array Bool} {pend : List (Nat × AV)} {i : Nat} {o : Oper} (ho : ops[i]? = some o) (hc : Closed ops listed) (hpl : PL pend listed) (hr : i ∈ Region.ready .any ops listed) (h : freeB ops M i o = true) :
    ∀ p ∈ pend, ∀ q, ops[p.1]? = some q → ∀ d, o.dst = some d → d ∉ q.looksAt ops := fun p hp q hq d hd hm => by
  unfold freeB at h
  rw [hd] at h
  obtain ⟨_, _, h0, _⟩ := ready_edges hr
  have h1 := List.all_eq_true.1 h p.1 (List.mem_range.2 (Array.getElem?_eq_some_iff.1 hq).1)
  simp only [hq, Bool.or_eq_true, beq_iff_eq, Bool.not_eq_true'] at h1
  rcases h1 with h1 | h1 | h1
  · have := hpl p hp
    rw [h1, listed_lt h0] at this; cases this
  · rw [List.contains_iff_mem.2 hm] at h1; cases h1
  · have := Closed.anc hM hc (Array.getElem?_eq_some_iff.1 ho).1 p.1 q hq (hc p.1 q hq (hpl p hp)) h1
    rw [listed_lt h0] at this; cases this

theorem evDrawn2_ok (hT : TOk P T) (hX : XOk P X) (hc : CallOk P call) {rd : Option Nat} {ops : Array Oper} {M : List Nat} (hM : Tidy ops M) {K : Fm → St → Prop} : ∀ (fuel : Nat) {pend : List (Nat × AV)} {listed : Array Bool} {un : List En} {L : Nat} {f : TF} {st : St} {outs : List (TF × St)},
    Inv ops M listed un L → Closed ops listed → PL pend listed → f.ok → evDrawn2 T X call ops M fuel pend un L f st = some outs → (∀ x ∈ outs, x.1.ok → K x.1.abs x.2) → AnyD P T ops M rd K fuel pend listed f.abs st
  | 0, pend, listed, un, L, f, st, outs, hi, hcl, hpl, hf, h, hk => by
    simp only [evDrawn2] at h
    split at h
    · rename_i hb
      simp only [Bool.and_eq_true, List.isEmpty_iff] at hb
      cases h
      exact AnyD.done (pendOkT_of hb.1) (by rw [hi.ready, hb.2]; rfl) (hk (f, st) (List.mem_singleton.2 rfl) hf) 0
    · cases h
  | fuel + 1, pend, listed, un, L, f, st, outs, hi, hcl, hpl, hf, h, hk => by
    simp only [evDrawn2] at h
    split at h
    · rename_i x r hp
      obtain ⟨h1, h2, h3⟩ := pickE_ok hp
      obtain ⟨h4, h5, h6⟩ := hi.mem h1
      have hlt := (Array.getElem?_eq_some_iff.1 h5).1
      refine AnyD.take hM hT h5 fuel hcl hpl (freeB_ok hM h5 hcl hpl h4 (by rw [← h6]; exact h2)) h4 (by rw [lightT_eq h5]; exact h3) ?_
      rw [← TF.abs_put hf]
      refine evDrawn2_ok hT hX hc hM fuel (hi.set hlt) (hcl.set h4) (fun p hm => ?_) (TF.put_ok hf _ _) h hk
      rcases List.mem_cons.1 hm with rfl | hm
      · have : x.i < listed.size := by rw [hi.size]; exact hlt
        simp [this]
      · exact getD_set_true (hpl p hm)
    · split at h
      · cases h
      · rename_i hb
        split at h
        · rename_i hq
          cases h
          exact AnyD.done (pendOkT_of hb) (by rw [hi.ready, hq]; rfl) (hk (f, st) (List.mem_singleton.2 rfl) hf) _
        · rename_i y ys hq
          refine AnyD.all (pendOkT_of hb) (hi.ready.trans (by rw [hq])) (by simp) fun j hj => ?_
          rw [List.mem_map] at hj
          obtain ⟨x, hx, rfl⟩ := hj
          obtain ⟨h4, h5, h6⟩ := hi.mem (by rw [hq]; exact hx)
          have hlt := (Array.getElem?_eq_some_iff.1 h5).1
          obtain ⟨os, h1, h2⟩ := bindL_ok h x hx
          have hpl' : PL (dropP M x.i pend) (listed.setIfInBounds x.i true) := fun p hm => getD_set_true (hpl p (List.mem_filter.1 hm).1)
          refine ⟨x.o, h5, ?_⟩
          split at h1
          · rename_i r hr
            refine OpsW.lightV hT h5 (by rw [lightT_eq h5]; exact hr) (.nil ⟨r, rfl, ?_⟩)
            rw [← TF.abs_put hf]
            exact evDrawn2_ok hT hX hc hM fuel (hi.set hlt) (hcl.set h4) hpl' (TF.put_ok hf _ _) h1 fun z hz => hk z (h2 z hz)
          · split at h1
            · rename_i hw
              split at h1
              · rename_i os2 hos
                rw [← TF.av_eq] at hos
                refine (heavy_ok hT hX hc h5 (by rw [wantT_eq]; exact hw) hos).mono fun f' st' ⟨v, hf', hm⟩ => ⟨v, hf', ?_⟩
                subst hf'
                obtain ⟨q, h7, h8⟩ := bindL_ok h1 (v, st') hm
                rw [← TF.abs_put hf]
                exact evDrawn2_ok hT hX hc hM fuel (hi.set hlt) (hcl.set h4) hpl' (TF.put_ok hf _ _) h7 fun z hz => hk z (h2 z (h8 z hz))
              · cases h1
            · cases h1

theorem Inv.start (ops : Array Oper) (M : List Nat) : Inv ops M (Array.replicate ops.size false) (infoL ops M) 0 := by
  refine ⟨?_, by simp, fun i => ?_⟩
  · symm
    rw [List.filter_eq_self]
    intro x hx
    unfold infoL at hx
    rw [List.mem_filterMap] at hx
    obtain ⟨i, h1, h2⟩ := hx
    rw [(infoAt_some h2).1]
    simp [List.mem_range.1 h1]
  · simp only [Nat.zero_testBit, Array.getD_eq_getD_getElem?, Array.getElem?_replicate]
    split <;> rfl

end
end Go.Ev
