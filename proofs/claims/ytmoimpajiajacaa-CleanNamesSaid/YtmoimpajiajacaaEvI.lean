/-
  REGIONS THAT DRAW THEIR ORDER. A light operation may be taken at once, where it yields the same behind whatever may come before it. Own work of the verifier of watercress.
-/
import Derived.OrdersIn
import Derived.Test.YtmoimpajiajacaaEvH
namespace Go.Ev

theorem evL_congr (T : Ti) (h : Hp) {ρ ρ' : Operand → AV} (o : Oper) (hx : ∀ x ∈ o.op.operands, ρ x = ρ' x) : evL T h ρ o = evL T h ρ' o := by
  obtain ⟨dst, op, type, pos, after, guard⟩ := o
  cases op <;> simp only [Op.operands] at hx <;> simp only [evL]
  case makeFunc fn a b =>
    rw [List.map_congr_left (l := a.toList) fun x hm => hx x (by simp [Array.mem_toList_iff.1 hm]), List.map_congr_left (l := b.toList) fun x hm => hx x (by simp [Array.mem_toList_iff.1 hm])]
  case call c =>
    have ha : ∀ x ∈ c.args.toList, ρ x = ρ' x := fun x hm => hx x (by simp [Call.operands, Array.mem_toList_iff.1 hm])
    cases hc : c.callee with
    | builtin b =>
      cases hl : c.args.toList with
      | nil => rfl
      | cons x r =>
        have hx0 : ρ x = ρ' x := ha x (by rw [hl]; simp)
        cases r with
        | nil => cases b <;> first | rfl | (rcases c.argTypes.toList with _ | ⟨t, _ | ⟨t2, r2⟩⟩ <;> simp only [hx0])
        | cons y r =>
          have hy0 : ρ y = ρ' y := ha y (by rw [hl]; simp)
          cases b <;> first | rfl | (cases r <;> simp only [hx0, hy0])
    | value f => rfl
    | invoke r m => rfl
  all_goals (first | rfl | (simp_all; done))

theorem evG_congr (T : Ti) (h : Hp) {ρ ρ' : Operand → AV} (o : Oper) (hx : ∀ x ∈ o.op.operands, ρ x = ρ' x) : evG T h ρ o = evG T h ρ' o := by
  have hL := evL_congr T h o hx
  obtain ⟨dst, op, type, pos, after, guard⟩ := o
  cases op <;> simp only [Op.operands] at hx <;> simp only [evG]
  case build t ps =>
    rw [List.map_congr_left (l := ps.toList) fun p hm => by
      have : ρ p.2 = ρ' p.2 := hx p.2 (by simp only [List.mem_toArray, List.mem_map]; exact ⟨p, hm, rfl⟩)
      rw [this]]
  case slice t x lo hi mx => cases lo <;> cases hi <;> cases mx <;> simp_all
  case binOp b t x y yt => cases b <;> simp only [evG] <;> simp_all
  all_goals (first | exact hL | rfl | (simp_all; done))

theorem av_put {f : Fm} {dst : Option Tmp} {v : AV} {x : Operand} (h : ∀ d, dst = some d → x ≠ .tmp d) : Operand.av (f.put dst v).ts x = Operand.av f.ts x := by
  cases dst with
  | none => rfl
  | some d =>
    cases x with
    | tmp t =>
      have hne : d ≠ t := fun e => h d rfl (e ▸ rfl)
      simp [Fm.put, Operand.av, List.getD_eq_getElem?_getD, List.getElem?_set_ne hne]
    | _ => rfl

section
variable {P : Program} {T : Ti} {ops : Array Oper}

theorem evG_put {h : Hp} (o : Oper) (f : Fm) (dst : Option Tmp) (v : AV) (hd : ∀ d, dst = some d → d ∉ o.looksAt ops) :
    evG T h (Operand.av (f.put dst v).ts) o = evG T h (Operand.av f.ts) o :=
  evG_congr T h o fun x hx => av_put fun d hdd hxd => hd d hdd (by
    subst hxd
    exact List.mem_append_left _ (List.mem_filterMap.2 ⟨.tmp d, by simpa using hx, rfl⟩))

theorem wantedA_put (o : Oper) (f : Fm) (dst : Option Tmp) (v : AV) (h : ∀ d, dst = some d → d ∉ o.looksAt ops) :
    Region.wanted o (yA ops (f.put dst v).ts) = Region.wanted o (yA ops f.ts) := by
  cases dst with
  | none => rfl
  | some d =>
    unfold Region.wanted
    cases hg : o.guard with
    | none => rfl
    | some gw =>
      obtain ⟨g, want⟩ := gw
      have hy : yA ops (f.put (some d) v).ts g = yA ops f.ts g := by
        unfold yA
        cases ht : (ops[g]?).bind (·.dst) with
        | none => rfl
        | some t =>
          have hne : d ≠ t := fun e => h d rfl (by subst e; simp [Oper.looksAt, hg, ht])
          simp [Fm.put, List.getElem?_set_ne hne]
      simp only [hy]

/-- What number i yields here, if it is light or not wanted. -/
def lightV (T : Ti) (ops : Array Oper) (h : Hp) (f : Fm) (i : Nat) : Option AV :=
  match ops[i]? with
  | some o => if Region.wanted o (yA ops f.ts) then evG T h (Operand.av f.ts) o else some undA
  | none => none

theorem lightV_put {h : Hp} {i : Nat} {f : Fm} {dst : Option Tmp} {v : AV} (hd : ∀ o, ops[i]? = some o → ∀ d, dst = some d → d ∉ o.looksAt ops) : lightV T ops h (f.put dst v) i = lightV T ops h f i := by
  unfold lightV
  cases ho : ops[i]? with
  | none => rfl
  | some o => simp only [wantedA_put o f dst v (hd o ho), evG_put o f dst v (hd o ho)]

/-! ### The region's own order -/
def edgesOf (o : Oper) : List Nat := o.after.toList.filterMap fun e => if Region.binds .any e then some e.on else none

/-- M j: the numbers that come before j, as bits. -/
structure Tidy (ops : Array Oper) (M : List Nat) : Prop where
  back : ∀ (j : Nat) (o : Oper), ops[j]? = some o → ∀ e ∈ edgesOf o, e < j
  anc : ∀ (j : Nat) (o : Oper) i, ops[j]? = some o → i < ops.size → (M.getD j 0).testBit i = true → ∃ e ∈ edgesOf o, e = i ∨ (M.getD e 0).testBit i = true
  see : ∀ (i j : Nat) (oi oj : Oper), ops[i]? = some oi → ops[j]? = some oj → i ≠ j → ∀ d, oi.dst = some d → (d ∈ oj.looksAt ops → (M.getD j 0).testBit i = true ∨ (M.getD i 0).testBit j = true) ∧ oj.dst ≠ some d
  self : ∀ (i : Nat) (oi : Oper), ops[i]? = some oi → ∀ d, oi.dst = some d → d ∉ oi.looksAt ops
  plain : ∀ (i : Nat) (oi : Oper), ops[i]? = some oi → (∀ cs b, oi.op ≠ .select cs b) ∧ ∀ c, oi.op ≠ .defer c

def plainB (o : Oper) : Bool := match o.op with | .select .. | .defer _ => false | _ => true

def tidyAt (ops : Array Oper) (M : List Nat) (j : Nat) (o : Oper) : Bool :=
  plainB o && (edgesOf o).all (· < j) &&
  ((List.range ops.size).all fun i => !(M.getD j 0).testBit i || (edgesOf o).any fun e => e == i || (M.getD e 0).testBit i) &&
  ((List.range ops.size).all fun i => match (ops[i]?).bind (·.dst) with
    | some d => (!((o.looksAt ops).contains d) || (i != j && ((M.getD j 0).testBit i || (M.getD i 0).testBit j))) && (i == j || o.dst != some d)
    | none => true)

def tidyB (ops : Array Oper) (M : List Nat) : Bool := (List.range ops.size).all fun j => match ops[j]? with
  | some o => tidyAt ops M j o
  | none => true

def masks (ops : Array Oper) : List Nat := ops.toList.foldl (fun M o => M ++ [(edgesOf o).foldl (fun m e => m ||| (1 <<< e) ||| M.getD e 0) 0]) []

theorem tidy_of {M : List Nat} (h : tidyB ops M = true) : Tidy ops M := by
  have hat : ∀ (j : Nat) (o : Oper), ops[j]? = some o → tidyAt ops M j o = true := fun j o ho => by
    have := List.all_eq_true.1 h j (List.mem_range.2 (Array.getElem?_eq_some_iff.1 ho).1)
    simpa only [ho] using this
  have hsee : ∀ (i j : Nat) (oi oj : Oper), ops[i]? = some oi → ops[j]? = some oj → ∀ d, oi.dst = some d → (d ∈ oj.looksAt ops → i ≠ j ∧ ((M.getD j 0).testBit i = true ∨ (M.getD i 0).testBit j = true)) ∧ (i ≠ j → oj.dst ≠ some d) := fun i j oi oj hi hj d hd => by
    have h1 := hat j oj hj
    simp only [tidyAt, Bool.and_eq_true] at h1
    have h2 := List.all_eq_true.1 h1.2 i (List.mem_range.2 (Array.getElem?_eq_some_iff.1 hi).1)
    simp only [hi, Option.bind_some, hd, Bool.and_eq_true, Bool.or_eq_true, Bool.not_eq_true', bne_iff_ne, beq_iff_eq] at h2
    refine ⟨fun hm => ?_, fun hne => h2.2.resolve_left hne⟩
    rcases h2.1 with h3 | h3
    · rw [List.contains_iff_mem.2 hm] at h3; cases h3
    · exact h3
  refine ⟨fun j o ho e he => ?_, fun j o i ho hi hb => ?_, fun i j oi oj hi hj hne d hd => ⟨fun hm => ((hsee i j oi oj hi hj d hd).1 hm).2, (hsee i j oi oj hi hj d hd).2 hne⟩, fun i oi hi d hd hm => ((hsee i i oi oi hi hi d hd).1 hm).1 rfl, fun i oi hi => ?_⟩
  · have h1 := hat j o ho
    simp only [tidyAt, Bool.and_eq_true] at h1
    simpa using List.all_eq_true.1 h1.1.1.2 e he
  · have h1 := hat j o ho
    simp only [tidyAt, Bool.and_eq_true] at h1
    have h2 := List.all_eq_true.1 h1.1.2 i (List.mem_range.2 hi)
    simp only [hb, Bool.not_true, Bool.false_or, List.any_eq_true, Bool.or_eq_true, beq_iff_eq] at h2
    exact h2
  · have h1 := hat i oi hi
    simp only [tidyAt, Bool.and_eq_true] at h1
    have h2 := h1.1.1.1
    unfold plainB at h2
    exact ⟨fun cs b hc => by simp [hc] at h2, fun c hc => by simp [hc] at h2⟩

/-- What is listed has listed before it what it waits for. -/
def Closed (ops : Array Oper) (listed : Array Bool) : Prop := ∀ (j : Nat) (o : Oper), ops[j]? = some o → listed.getD j false = true → ∀ e ∈ edgesOf o, listed.getD e false = true

theorem mem_edges {o : Oper} {e : Nat} : e ∈ edgesOf o ↔ ∃ x ∈ o.after, Region.binds .any x = true ∧ x.on = e := by
  unfold edgesOf
  rw [List.mem_filterMap]
  constructor
  · rintro ⟨x, hx, h⟩
    split at h
    · rename_i hb; cases h; exact ⟨x, Array.mem_toList_iff.1 hx, hb, rfl⟩
    · cases h
  · rintro ⟨x, hx, hb, rfl⟩
    exact ⟨x, Array.mem_toList_iff.2 hx, by simp [hb]⟩

theorem ready_edges {j : Nat} {listed : Array Bool} (h : j ∈ Region.ready .any ops listed) : ∃ o, ops[j]? = some o ∧ listed.getD j true = false ∧ ∀ e ∈ edgesOf o, listed.getD e false = true := by
  obtain ⟨h0, o, ho, h1⟩ := mem_ready.1 h
  exact ⟨o, ho, h0, fun e he => by obtain ⟨x, hx, hb, rfl⟩ := mem_edges.1 he; exact h1 x hx hb⟩

theorem Closed.set {listed : Array Bool} (hc : Closed ops listed) {j : Nat} (h : j ∈ Region.ready .any ops listed) : Closed ops (listed.setIfInBounds j true) := by
  obtain ⟨o, ho, _, he⟩ := ready_edges h
  intro k ok hok hk e hek
  by_cases hjk : j = k
  · subst hjk
    rw [ho] at hok; cases hok
    exact getD_set_true (he e hek)
  · rw [getD_set_ne false hjk] at hk
    exact getD_set_true (hc k ok hok hk e hek)

theorem listed_lt {listed : Array Bool} {j : Nat} (h : listed.getD j true = false) : listed.getD j false = false := by
  rcases Nat.lt_or_ge j listed.size with h' | h'
  · simpa [h'] using h
  · simp [Array.getElem?_eq_none h']

theorem Closed.anc {M : List Nat} (hM : Tidy ops M) {listed : Array Bool} (hc : Closed ops listed) {i : Nat} (hi : i < ops.size) : ∀ (j : Nat) (o : Oper), ops[j]? = some o → (∀ e ∈ edgesOf o, listed.getD e false = true) → (M.getD j 0).testBit i = true → listed.getD i false = true := by
  intro j
  induction j using Nat.strongRecOn with
  | _ j ih =>
    intro o ho hall hb
    obtain ⟨e, he, h1 | h1⟩ := hM.anc j o i ho hi hb
    · subst h1; exact hall e he
    · have hlt := hM.back j o ho e he
      have hes : e < ops.size := Nat.lt_trans hlt (Array.getElem?_eq_some_iff.1 ho).1
      exact ih e hlt ops[e] (Array.getElem?_eq_getElem hes) (hc e ops[e] (Array.getElem?_eq_getElem hes) (hall e he)) h1

/-! ### Any order, of abstract frames -/
def PendOk (T : Ti) (ops : Array Oper) (pend : List (Nat × AV)) (f : Fm) (h : Hp) : Prop := ∀ p ∈ pend, lightV T ops h f p.1 = some p.2

def dropP (M : List Nat) (j : Nat) (pend : List (Nat × AV)) : List (Nat × AV) := pend.filter fun p => !(M.getD j 0).testBit p.1

variable (P T ops) in
def AnyD (M : List Nat) (rd : Option Nat) (K : Fm → St → Prop) : Nat → List (Nat × AV) → Array Bool → Fm → St → Prop
  | 0, pend, listed, f, st => PendOk T ops pend f st.h ∧ Region.ready .any ops listed = [] ∧ K f st
  | fuel + 1, pend, listed, f, st => PendOk T ops pend f st.h ∧ (Region.ready .any ops listed = [] → K f st) ∧
    ∀ j ∈ Region.ready .any ops listed, ∃ o, ops[j]? = some o ∧ OpsW P rd ops [j] (fun f' st' => ∃ v, f' = f.put o.dst v ∧ AnyD M rd K fuel (dropP M j pend) (listed.setIfInBounds j true) f' st') f st

theorem OpsW.mono {rd : Option Nat} {l : List Nat} {K K' : Fm → St → Prop} {f : Fm} {st : St} (h : OpsW P rd ops l K f st) (hk : ∀ f st, K f st → K' f st) : OpsW P rd ops l K' f st :=
  fun φ w a n Q h1 h2 h3 hQ => h φ w a n Q h1 h2 h3 fun a' w' ⟨f', st', φ', k, r⟩ => hQ a' w' ⟨f', st', φ', hk _ _ k, r⟩

theorem AnyD.pend {M : List Nat} {rd : Option Nat} {K : Fm → St → Prop} {fuel : Nat} {pend : List (Nat × AV)} {listed : Array Bool} {f : Fm} {st : St} (h : AnyD P T ops M rd K fuel pend listed f st) : PendOk T ops pend f st.h := by
  cases fuel <;> exact h.1

theorem AnyD.weaken {M : List Nat} {rd : Option Nat} {K : Fm → St → Prop} : ∀ (fuel : Nat) {pend pend' : List (Nat × AV)} {listed : Array Bool} {f : Fm} {st : St}, AnyD P T ops M rd K fuel pend listed f st → (∀ p ∈ pend', p ∈ pend) → AnyD P T ops M rd K fuel pend' listed f st
  | 0, _, _, _, _, _, h, hs => ⟨fun p hp => h.1 p (hs p hp), h.2⟩
  | fuel + 1, pend, pend', _, _, _, h, hs => ⟨fun p hp => h.1 p (hs p hp), h.2.1, fun j hj => by
      obtain ⟨o, ho, h1⟩ := h.2.2 j hj
      refine ⟨o, ho, h1.mono fun f' st' ⟨v, h2, h3⟩ => ⟨v, h2, AnyD.weaken fuel h3 fun p hp => ?_⟩⟩
      unfold dropP at *
      rw [List.mem_filter] at *
      exact ⟨hs p hp.1, hp.2⟩⟩

/-- One operation, in two frames that look alike to it. -/
theorem wpOpIn_congr {F : Fence} {n : Nat} {Q1 Q2 : Exit → Act → World → Prop} {j : Nat} {o : Oper} {K1 K2 : Act → World → Prop} {a1 a2 : Act} {w : World} (hj : ops[j]? = some o) (hnd : ∀ c, o.op ≠ .defer c)
    (hw : Region.wanted o (yielded ops a1.tmps) = Region.wanted o (yielded ops a2.tmps)) (he : execOp a1.eval o = execOp a2.eval o) (hb : ∀ w, o.about P w a1.eval = o.about P w a2.eval)
    (hK : ∀ cv w', K1 (a1.put o.dst cv) w' → K2 (a2.put o.dst cv) w') (hD : ∀ d w', K1 ({ a1 with defers := d :: a1.defers }.put o.dst undef) w' → K2 ({ a2 with defers := d :: a2.defers }.put o.dst undef) w') (hQ : ∀ e a w, e ≠ .normal → Q1 e a w → Q2 e a2 w) (hl : LetsOut Q1 → LetsOut Q2)
    (h : wpOpIn F n P ops Q1 j K1 a1 w) : wpOpIn F n P ops Q2 j K2 a2 w := by
  unfold wpOpIn at *
  simp only [hj] at *
  rw [hw, hb w] at h
  split
  · rename_i hwn
    simp only [hwn, if_true] at h
    unfold Oper.wpIn at *
    rw [semAt_eq hnd, he, hb w] at h
    rw [semAt_eq hnd]
    refine ⟨h.1, ?_⟩
    obtain ⟨-, h⟩ := h
    generalize (execOp a2.eval o).run P w = r at *
    cases r with
    | ok x w' =>
      cases x <;> simp only [Oper.uponIn] at h ⊢
      case value u => exact hK u _ h
      case skip => exact hK _ _ h
      case defer d => exact hD d _ h
      case enter f args => exact ⟨h.1, CallsIn.mono h.2 fun e w'' he => by
        cases e with
        | returned u => exact hK u _ he
        | panicked c => exact hQ _ _ _ (by simp) he
        | outgrown => exact hl he⟩
      case row row args => exact ⟨h.1, RowsIn.mono h.2 fun u w'' he => hK u _ he⟩
      case round l f tmps assign body => exact ⟨h.1, RoundIn.mono h.2 fun e w'' he => by
        cases e with
        | returned u => exact hK u _ he
        | panicked c => exact hQ _ _ _ (by simp) he
        | outgrown => exact hl he⟩
    | halt x w' =>
      cases x <;> simp only [Oper.uponIn] at h ⊢
      case panic u => exact hQ _ _ _ (by simp) h
  · rename_i hwn
    simp only [hwn] at h
    exact ⟨h.1, hK _ _ h.2⟩

theorem getElem?_put {tmps : List AV} {d : Nat} {v : AV} (h : d < tmps.length) : (tmps.set d v)[d]? = some v := by simp [h]

theorem OpsW.unput {M : List Nat} (hM : Tidy ops M) (hT : TOk P T) {rd : Option Nat} {i j : Nat} {oi oj : Oper} {r : AV} {K : Fm → St → Prop} {f : Fm} {st : St} (hi : ops[i]? = some oi) (hj : ops[j]? = some oj)
    (h1 : ∀ d, oi.dst = some d → d ∉ oj.looksAt ops) (h2 : ∀ d, oi.dst = some d → oj.dst ≠ some d) (hr : lightV T ops st.h f i = some r)
    (h : OpsW P rd ops [j] (fun f' st' => ∃ v, f' = (f.put oi.dst r).put oj.dst v ∧ K (f.put oj.dst v) st') (f.put oi.dst r) st) :
    OpsW P rd ops [j] (fun f' st' => ∃ v, f' = f.put oj.dst v ∧ K f' st') f st := by
  intro φ w a n Q hrd hrel hact hQ
  obtain ⟨u, hu⟩ : ∃ u, VR φ r u := by
    unfold lightV at hr
    simp only [hi] at hr
    split at hr
    · obtain ⟨u, h3, _⟩ := evG_ok (P := P) hT hrel (opR_of hact.ts) hr
      exact ⟨u, h3⟩
    · cases hr; exact ⟨undef, .lit _⟩
  have hp := hM.plain j oj hj
  -- the frame that has i's value already
  let X : Act → World → Prop := Lift φ st w (fun _ f' st' => ∃ v, f' = (f.put oi.dst r).put oj.dst v ∧ K (f.put oj.dst v) st') .normal
  have h3 := h φ w (a.put oi.dst u) n (fun e a w => e = .normal ∧ X a w) hrd hrel (hact.put oi.dst hu) (fun a' w' hl => ⟨rfl, hl⟩)
  rw [wpOpsIn_cons] at h3 ⊢
  refine wpOpIn_congr hj hp.2 (wanted_put oj a oi.dst u h1) (execOp_put oj hp.1 a oi.dst u h1) (fun w => about_put oj w a oi.dst u h1) (fun cv w' hk => ?_) (fun d w' hk => ?_) (fun e a w hne hk => absurd hk.1 hne) (fun hl => ?_) h3
  · obtain ⟨_, f', st', φ', ⟨v, rfl, hk⟩, he, hrel', hact', hf⟩ := hk
    refine hQ _ _ ⟨f.put oj.dst v, st', φ', ⟨v, rfl, hk⟩, he, hrel', ?_, hf⟩
    cases hd : oj.dst with
    | none => exact hact.mono he
    | some d =>
      rw [hd] at hact'
      by_cases hlt : d < f.ts.length
      · refine (hact.mono he).put (some d) ?_
        have hlt' : d < (f.put oi.dst r).ts.length := by cases oi.dst <;> simpa [Fm.put] using hlt
        obtain ⟨x, hx1, hx2⟩ := hact'.ts.get d v (by show ((f.put oi.dst r).ts.set d v)[d]? = some v; simp [hlt'])
        have hlc : d < (a.put oi.dst u).tmps.size := by
          have h5 := (hact.put oi.dst hu).ts.length
          rw [Array.length_toList] at h5
          exact Nat.lt_of_lt_of_eq hlt' h5
        have : ((a.put oi.dst u).put (some d) cv).tmps.toList[d]? = some cv := by
          show ((a.put oi.dst u).tmps.setIfInBounds d cv).toList[d]? = some cv
          rw [Array.toList_setIfInBounds]
          simp [hlc]
        rw [this] at hx1
        cases hx1
        exact hx2
      · have e1 : f.put (some d) v = f := by
          cases f with | mk ts dm => simp only [Fm.put]; congr 1; exact List.set_eq_of_length_le (by simpa using hlt)
        have hlc : ¬ d < a.tmps.size := by
          have h5 := hact.ts.length
          rw [Array.length_toList] at h5
          exact fun h6 => hlt (Nat.lt_of_lt_of_eq h6 h5.symm)
        have e2 : a.put (some d) cv = a := by
          cases a with | mk tmps defers => simp only [Act.put]; congr 1; exact Array.setIfInBounds_eq_of_size_le (by simpa using hlc)
        rw [e1, e2]
        exact hact.mono he
  · exfalso
    obtain ⟨_, f', st', φ', ⟨v, rfl, hk⟩, he, hrel', hact', hf⟩ := hk
    have e1 := congrArg List.length hact'.dm
    have e2 := congrArg List.length hact.dm
    have e3 : ((f.put oi.dst r).put oj.dst v).dm = f.dm := by cases oi.dst <;> cases oj.dst <;> rfl
    rw [e3] at e1
    cases hdi : oi.dst <;> cases hdj : oj.dst <;> simp [hdi, hdj, Act.put] at e1 e2 <;> omega
  · obtain ⟨a, w, hn, _⟩ := hl
    cases hn

theorem Fm.put_comm (f : Fm) {x y : Option Tmp} (v u : AV) (h : ∀ d, x = some d → y ≠ some d) : (f.put x v).put y u = (f.put y u).put x v := by
  cases x with
  | none => rfl
  | some d =>
    cases y with
    | none => rfl
    | some e =>
      have hne : d ≠ e := fun he => h d rfl (he ▸ rfl)
      simp [Fm.put, List.set_comm _ _ hne]

theorem OpsW.lightV (hT : TOk P T) {rd : Option Nat} {i : Nat} {l : List Nat} {K : Fm → St → Prop} {f : Fm} {st : St} {o : Oper} {r : AV} (ho : ops[i]? = some o) (hr : lightV T ops st.h f i = some r) (h : OpsW P rd ops l K (f.put o.dst r) st) : OpsW P rd ops (i :: l) K f st := by
  unfold Ev.lightV at hr
  simp only [ho] at hr
  split at hr
  · rename_i hw; exact .light hT ho hw hr h
  · rename_i hw; cases hr; exact .skip ho (by simpa using hw) h

def PL (pend : List (Nat × AV)) (listed : Array Bool) : Prop := ∀ p ∈ pend, listed.getD p.1 false = true

theorem AnyD.take {M : List Nat} (hM : Tidy ops M) (hT : TOk P T) {rd : Option Nat} {K : Fm → St → Prop} {i : Nat} {oi : Oper} {r : AV} (hi : ops[i]? = some oi) : ∀ (fuel : Nat) {pend : List (Nat × AV)} {listed : Array Bool} {f : Fm} {st : St},
    Closed ops listed → PL pend listed → (∀ p ∈ pend, ∀ o, ops[p.1]? = some o → ∀ d, oi.dst = some d → d ∉ o.looksAt ops) → i ∈ Region.ready .any ops listed → lightV T ops st.h f i = some r → AnyD P T ops M rd K fuel ((i, r) :: pend) (listed.setIfInBounds i true) (f.put oi.dst r) st →
    AnyD P T ops M rd K (fuel + 1) pend listed f st := by
  intro fuel
  have his : i < ops.size := (Array.getElem?_eq_some_iff.1 hi).1
  -- what is pending does not look at i
  have hpend : ∀ {pend : List (Nat × AV)} {f : Fm} {h : Hp}, (∀ p ∈ pend, ∀ o, ops[p.1]? = some o → ∀ d, oi.dst = some d → d ∉ o.looksAt ops) → PendOk T ops ((i, r) :: pend) (f.put oi.dst r) h → PendOk T ops pend f h := by
    intro pend f h hpd hp p hpm
    have h1 := hp p (List.mem_cons_of_mem _ hpm)
    rwa [lightV_put (fun o ho d hd => hpd p hpm o ho d hd)] at h1
  have hself : ∀ {pend : List (Nat × AV)} {listed : Array Bool} {f : Fm} {st : St} {fuel : Nat}, AnyD P T ops M rd K fuel ((i, r) :: pend) (listed.setIfInBounds i true) (f.put oi.dst r) st → lightV T ops st.h f i = some r →
      ∃ o, ops[i]? = some o ∧ OpsW P rd ops [i] (fun f' st' => ∃ v, f' = f.put o.dst v ∧ AnyD P T ops M rd K fuel (dropP M i pend) (listed.setIfInBounds i true) f' st') f st := fun H hr =>
    ⟨oi, hi, OpsW.lightV hT hi hr (.nil ⟨r, rfl, H.weaken _ fun p hp => List.mem_cons_of_mem _ (List.mem_filter.1 hp).1⟩)⟩
  induction fuel with
  | zero =>
    intro pend listed f st hc hpl hpd hr hl H
    refine ⟨hpend hpd H.pend, fun h => (by rw [h] at hr; cases hr), fun j hj => ?_⟩
    by_cases hji : j = i
    · subst hji; exact hself H hl
    · have := ready_mono hj hji
      rw [H.2.1] at this
      cases this
  | succ fuel ih =>
    intro pend listed f st hc hpl hpd hr hl H
    refine ⟨hpend hpd H.pend, fun h => (by rw [h] at hr; cases hr), fun j hj => ?_⟩
    by_cases hji : j = i
    · subst hji; exact hself H hl
    · obtain ⟨oj, hoj, h1⟩ := H.2.2 j (ready_mono hj hji)
      obtain ⟨oj', hoj', hjun, hje⟩ := ready_edges hj
      rw [hoj] at hoj'; cases hoj'
      obtain ⟨oi', hoi', hiun, hie'⟩ := ready_edges hr
      rw [hi] at hoi'; cases hoi'
      have hnot : (M.getD j 0).testBit i = false := by
        cases hb : (M.getD j 0).testBit i with
        | false => rfl
        | true => have := Closed.anc hM hc his j oj hoj hje hb; rw [listed_lt hiun] at this; cases this
      have hd1 : ∀ d, oi.dst = some d → d ∉ oj.looksAt ops := fun d hd hm => by
        rcases (hM.see i j oi oj hi hoj (Ne.symm hji) d hd).1 hm with h5 | h5
        · rw [hnot] at h5; cases h5
        · have := Closed.anc hM hc (Array.getElem?_eq_some_iff.1 hoj).1 i oi hi hie' h5
          rw [listed_lt hjun] at this; cases this
      have hd2 : ∀ d, oi.dst = some d → oj.dst ≠ some d := fun d hd => (hM.see i j oi oj hi hoj (Ne.symm hji) d hd).2
      refine ⟨oj, hoj, OpsW.unput (K := fun f' st' => AnyD P T ops M rd K (fuel + 1) (dropP M j pend) (listed.setIfInBounds j true) f' st') hM hT hi hoj hd1 hd2 hl (h1.mono fun f' st' ⟨v, hf, h2⟩ => ⟨v, hf, ?_⟩)⟩
      subst hf
      have h3 : dropP M j ((i, r) :: pend) = (i, r) :: dropP M j pend := by unfold dropP; rw [List.filter_cons]; simp only [hnot, Bool.not_false, if_true]
      rw [h3, Array.setIfInBounds_comm _ _ (Ne.symm hji), Fm.put_comm _ _ _ hd2] at h2
      refine ih (hc.set hj) (fun p hp => getD_set_true (hpl p (List.mem_filter.1 hp).1)) (fun p hp => hpd p (List.mem_filter.1 hp).1) (ready_mono hr (Ne.symm hji)) ?_ h2
      have h4 := h2.pend (i, r) (by simp)
      rwa [lightV_put (fun o ho d hd => by rw [hi] at ho; cases ho; exact hM.self i oi hi d hd)] at h4

theorem AnyD.done {M : List Nat} {rd : Option Nat} {K : Fm → St → Prop} {pend : List (Nat × AV)} {listed : Array Bool} {f : Fm} {st : St} (hp : PendOk T ops pend f st.h) (hr : Region.ready .any ops listed = []) (h : K f st) : ∀ fuel, AnyD P T ops M rd K fuel pend listed f st
  | 0 => ⟨hp, hr, h⟩
  | _ + 1 => ⟨hp, fun _ => h, by rw [hr]; simp⟩

theorem AnyD.all {M : List Nat} {rd : Option Nat} {K : Fm → St → Prop} {fuel : Nat} {pend : List (Nat × AV)} {listed : Array Bool} {f : Fm} {st : St} {rs : List Nat} (hp : PendOk T ops pend f st.h) (hr : Region.ready .any ops listed = rs) (hne : rs ≠ [])
    (h : ∀ j ∈ rs, ∃ o, ops[j]? = some o ∧ OpsW P rd ops [j] (fun f' st' => ∃ v, f' = f.put o.dst v ∧ AnyD P T ops M rd K fuel (dropP M j pend) (listed.setIfInBounds j true) f' st') f st) : AnyD P T ops M rd K (fuel + 1) pend listed f st :=
  ⟨hp, fun h0 => absurd (hr ▸ h0) hne, hr ▸ h⟩

theorem AnyD.sound {M : List Nat} (hM : Tidy ops M) {rd : Option Nat} {K : Fm → St → Prop} : ∀ (fuel : Nat) {pend : List (Nat × AV)} {listed : Array Bool} {f : Fm} {st : St}, AnyD P T ops M rd K fuel pend listed f st →
    ∀ (φ : Fi) (w : World) (a : Act) (n : Nat) (Q : Exit → Act → World → Prop), (∀ id, rd = some id → id < φ.n) → Rel φ st w → ActR φ f a → (∀ a' w', Lift φ st w (fun _ f' st' => K f' st') .normal a' w' → Q .normal a' w') →
      wpAnyIn (FW (rdB φ rd)) n P .any ops Q fuel listed a w
  | 0, _, _, _, _, h, _, _, _, _, _, _, h2, h3, hQ => ⟨h.2.1, hQ _ _ (Lift.here h.2.2 h2 h3)⟩
  | fuel + 1, pend, listed, f, st, h, φ, w, a, n, Q, h1, h2, h3, hQ => by
    refine ⟨fun hr => hQ _ _ (Lift.here (h.2.1 hr) h2 h3), fun j hj => ?_⟩
    obtain ⟨o, ho, h4⟩ := h.2.2 j hj
    have hp := hM.plain j o ho
    have h5 := h4 φ w a n (fun e a' w' => e = .normal ∧ wpAnyIn (FW (rdB φ rd)) n P .any ops Q fuel (listed.setIfInBounds j true) a' w') h1 h2 h3 (fun a' w' hl => ⟨rfl, by
      obtain ⟨f', st', φ', ⟨v, hf, hk⟩, he, hrel, hact, hfr⟩ := hl
      have h6 := AnyD.sound hM fuel hk φ' w' a' n Q (fun id hi => Nat.lt_of_lt_of_le (h1 id hi) he.n) hrel hact (fun a2 w2 hl2 => hQ a2 w2 (hl2.trans he hfr))
      rwa [rdB_ext he h1] at h6⟩)
    rw [wpOpsIn_cons] at h5
    exact wpOpIn_congr ho hp.2 rfl rfl (fun _ => rfl) (fun cv w' hk => hk.2) (fun d w' hk => hk.2) (fun e a w hne hk => absurd hk.1 hne) (fun hl => by obtain ⟨a, w, hn, _⟩ := hl; cases hn) h5

/-- A region that draws its order. -/
theorem SW.drawn {M : List Nat} (hm : P.follows .mixedOrders = true) {rd : Option Nat} {id : Nat} {Q : Exit → Fm → St → Prop} {f : Fm} {st : St} (hM : Tidy ops M)
    (h : AnyD P T ops M rd (fun f' st' => Q .normal f' st') ops.size [] (Array.replicate ops.size false) f st) : SW P rd (.region id ops true) Q f st := by
  intro φ w a n h1 h2 h3
  refine wpIn_region_any hm ?_
  have hrel : Rel φ st { w with drawn := w.drawn + 1 } := h2.of_heap rfl
  refine AnyD.sound hM ops.size h φ _ a n _ h1 hrel h3 fun a' w' hl => ?_
  obtain ⟨f', st', φ', k, he, hr, ha, hf⟩ := hl
  exact ⟨f', st', φ', k, he, hr, ha, ⟨hf.os, hf.tape, hf.output, hf.size, hf.block, hf.own⟩⟩

theorem closed_nil : Closed ops (Array.replicate ops.size false) := fun j o ho hl => by
  exfalso
  simp only [Array.getD_eq_getD_getElem?, Array.getElem?_replicate] at hl
  split at hl <;> simp at hl

end
end Go.Ev
