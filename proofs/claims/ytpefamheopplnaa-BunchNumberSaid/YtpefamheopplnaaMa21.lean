/- Own work of the verifier of watercress: EvI, EvKr, EvKs. -/
import Derived.OrdersIn
import Derived.Test.YtpefamheopplnaaMa20
set_option linter.unusedVariables false
set_option linter.unusedSimpArgs false
namespace Go.Ev
theorem evL_congr (T : Ti) (h : Hp) {ρ ρ' : Operand → AV} (o : Oper) (hx : ∀ x ∈ o.op.operands, ρ x = ρ' x) : evL T h ρ o = evL T h ρ' o := by
  obtain ⟨dst, op, type, pos, after, guard⟩ := o
  cases op <;> simp only [Op.operands] at hx <;> simp only [evL]
  case makeFunc fn a b =>
    rw [List.map_congr_left (l := a.toList) fun x hm => hx x (by simp [Array.mem_toList_iff.1 hm]), List.map_congr_left (l := b.toList) fun x hm => hx x (by simp [Array.mem_toList_iff.1 hm])]
  case call c =>
    have ha : ∀ x ∈ c.args.toList, ρ x = ρ' x := fun x hm => hx x (by simp [Call.operands, Array.mem_toList_iff.1 hm])
    cases hc : c.callee with
    | builtin b =>
      cases hl : c.args.toList with
      | nil => rfl
      | cons x r =>
        have hx0 : ρ x = ρ' x := ha x (by rw [hl]; simp)
        cases r with
        | nil => cases b <;> first | rfl | (rcases c.argTypes.toList with _ | ⟨t, _ | ⟨t2, r2⟩⟩ <;> simp only [hx0])
        | cons y r =>
          have hy0 : ρ y = ρ' y := ha y (by rw [hl]; simp)
          cases b <;> first | rfl | (cases r <;> simp only [hx0, hy0])
    | value f => rfl
    | invoke r m => rfl
  all_goals (first | rfl | (simp_all; done))
theorem evG_congr (T : Ti) (h : Hp) {ρ ρ' : Operand → AV} (o : Oper) (hx : ∀ x ∈ o.op.operands, ρ x = ρ' x) : evG T h ρ o = evG T h ρ' o := by
  have hL := evL_congr T h o hx
  obtain ⟨dst, op, type, pos, after, guard⟩ := o
  cases op <;> simp only [Op.operands] at hx <;> simp only [evG]
  case build t ps =>
    rw [List.map_congr_left (l := ps.toList) fun p hm => by
      have : ρ p.2 = ρ' p.2 := hx p.2 (by simp only [List.mem_toArray, List.mem_map]; exact ⟨p, hm, rfl⟩)
      rw [this]]
  case slice t x lo hi mx => cases lo <;> cases hi <;> cases mx <;> simp_all
  case binOp b t x y yt => cases b <;> simp only [evG] <;> simp_all
  all_goals (first | exact hL | rfl | (simp_all; done))
theorem av_put {f : Fm} {dst : Option Tmp} {v : AV} {x : Operand} (h : ∀ d, dst = some d → x ≠ .tmp d) : Operand.av (f.put dst v).ts x = Operand.av f.ts x := by
  cases dst with
  | none => rfl
  | some d =>
    cases x with
    | tmp t =>
      have hne : d ≠ t := fun e => h d rfl (e ▸ rfl)
      simp [Fm.put, Operand.av, List.getD_eq_getElem?_getD, List.getElem?_set_ne hne]
    | _ => rfl
section
variable {P : Program} {T : Ti} {ops : Array Oper}
theorem evG_put {h : Hp} (o : Oper) (f : Fm) (dst : Option Tmp) (v : AV) (hd : ∀ d, dst = some d → d ∉ o.looksAt ops) :
    evG T h (Operand.av (f.put dst v).ts) o = evG T h (Operand.av f.ts) o :=
  evG_congr T h o fun x hx => av_put fun d hdd hxd => hd d hdd (by
    subst hxd
    exact List.mem_append_left _ (List.mem_filterMap.2 ⟨.tmp d, by simpa using hx, rfl⟩))
theorem wantedA_put (o : Oper) (f : Fm) (dst : Option Tmp) (v : AV) (h : ∀ d, dst = some d → d ∉ o.looksAt ops) :
    Region.wanted o (yA ops (f.put dst v).ts) = Region.wanted o (yA ops f.ts) := by
  cases dst with
  | none => rfl
  | some d =>
    unfold Region.wanted
    cases hg : o.guard with
    | none => rfl
    | some gw =>
      obtain ⟨g, want⟩ := gw
      have hy : yA ops (f.put (some d) v).ts g = yA ops f.ts g := by
        unfold yA
        cases ht : (ops[g]?).bind (·.dst) with
        | none => rfl
        | some t =>
          have hne : d ≠ t := fun e => h d rfl (by subst e; simp [Oper.looksAt, hg, ht])
          simp [Fm.put, List.getElem?_set_ne hne]
      simp only [hy]
def lightV (T : Ti) (ops : Array Oper) (h : Hp) (f : Fm) (i : Nat) : Option AV :=
  match ops[i]? with
  | some o => if Region.wanted o (yA ops f.ts) then evG T h (Operand.av f.ts) o else some undA
  | none => none
theorem lightV_put {h : Hp} {i : Nat} {f : Fm} {dst : Option Tmp} {v : AV} (hd : ∀ o, ops[i]? = some o → ∀ d, dst = some d → d ∉ o.looksAt ops) : lightV T ops h (f.put dst v) i = lightV T ops h f i := by
  unfold lightV
  cases ho : ops[i]? with
  | none => rfl
  | some o => simp only [wantedA_put o f dst v (hd o ho), evG_put o f dst v (hd o ho)]
def edgesOf (o : Oper) : List Nat := o.after.toList.filterMap fun e => if Region.binds .any e then some e.on else none
structure Tidy (ops : Array Oper) (M : List Nat) : Prop where
  back : ∀ (j : Nat) (o : Oper), ops[j]? = some o → ∀ e ∈ edgesOf o, e < j
  anc : ∀ (j : Nat) (o : Oper) i, ops[j]? = some o → i < ops.size → (M.getD j 0).testBit i = true → ∃ e ∈ edgesOf o, e = i ∨ (M.getD e 0).testBit i = true
  see : ∀ (i j : Nat) (oi oj : Oper), ops[i]? = some oi → ops[j]? = some oj → i ≠ j → ∀ d, oi.dst = some d → (d ∈ oj.looksAt ops → (M.getD j 0).testBit i = true ∨ (M.getD i 0).testBit j = true) ∧ oj.dst ≠ some d
  self : ∀ (i : Nat) (oi : Oper), ops[i]? = some oi → ∀ d, oi.dst = some d → d ∉ oi.looksAt ops
  plain : ∀ (i : Nat) (oi : Oper), ops[i]? = some oi → (∀ cs b, oi.op ≠ .select cs b) ∧ ∀ c, oi.op ≠ .defer c
def plainB (o : Oper) : Bool := match o.op with | .select .. | .defer _ => false | _ => true
def tidyAt (ops : Array Oper) (M : List Nat) (j : Nat) (o : Oper) : Bool :=
  plainB o && (edgesOf o).all (· < j) &&
  ((List.range ops.size).all fun i => !(M.getD j 0).testBit i || (edgesOf o).any fun e => e == i || (M.getD e 0).testBit i) &&
  ((List.range ops.size).all fun i => match (ops[i]?).bind (·.dst) with
    | some d => (!((o.looksAt ops).contains d) || (i != j && ((M.getD j 0).testBit i || (M.getD i 0).testBit j))) && (i == j || o.dst != some d)
    | none => true)
def tidyB (ops : Array Oper) (M : List Nat) : Bool := (List.range ops.size).all fun j => match ops[j]? with
  | some o => tidyAt ops M j o
  | none => true
def masks (ops : Array Oper) : List Nat := ops.toList.foldl (fun M o => M ++ [(edgesOf o).foldl (fun m e => m ||| (1 <<< e) ||| M.getD e 0) 0]) []
theorem tidy_of {M : List Nat} (h : tidyB ops M = true) : Tidy ops M := by
  have hat : ∀ (j : Nat) (o : Oper), ops[j]? = some o → tidyAt ops M j o = true := fun j o ho => by
    have := List.all_eq_true.1 h j (List.mem_range.2 (Array.getElem?_eq_some_iff.1 ho).1)
    simpa only [ho] using this
  have hsee : ∀ (i j : Nat) (oi oj : Oper), ops[i]? = some oi → ops[j]? = some oj → ∀ d, oi.dst = some d → (d ∈ oj.looksAt ops → i ≠ j ∧ ((M.getD j 0).testBit i = true ∨ (M.getD i 0).testBit j = true)) ∧ (i ≠ j → oj.dst ≠ some d) := fun i j oi oj hi hj d hd => by
    have h1 := hat j oj hj
    simp only [tidyAt, Bool.and_eq_true] at h1
    have h2 := List.all_eq_true.1 h1.2 i (List.mem_range.2 (Array.getElem?_eq_some_iff.1 hi).1)
    simp only [hi, Option.bind_some, hd, Bool.and_eq_true, Bool.or_eq_true, Bool.not_eq_true', bne_iff_ne, beq_iff_eq] at h2
    refine ⟨fun hm => ?_, fun hne => h2.2.resolve_left hne⟩
    rcases h2.1 with h3 | h3
    · rw [List.contains_iff_mem.2 hm] at h3; cases h3
    · exact h3
  refine ⟨fun j o ho e he => ?_, fun j o i ho hi hb => ?_, fun i j oi oj hi hj hne d hd => ⟨fun hm => ((hsee i j oi oj hi hj d hd).1 hm).2, (hsee i j oi oj hi hj d hd).2 hne⟩, fun i oi hi d hd hm => ((hsee i i oi oi hi hi d hd).1 hm).1 rfl, fun i oi hi => ?_⟩
  · have h1 := hat j o ho
    simp only [tidyAt, Bool.and_eq_true] at h1
    simpa using List.all_eq_true.1 h1.1.1.2 e he
  · have h1 := hat j o ho
    simp only [tidyAt, Bool.and_eq_true] at h1
    have h2 := List.all_eq_true.1 h1.1.2 i (List.mem_range.2 hi)
    simp only [hb, Bool.not_true, Bool.false_or, List.any_eq_true, Bool.or_eq_true, beq_iff_eq] at h2
    exact h2
  · have h1 := hat i oi hi
    simp only [tidyAt, Bool.and_eq_true] at h1
    have h2 := h1.1.1.1
    unfold plainB at h2
    exact ⟨fun cs b hc => by simp [hc] at h2, fun c hc => by simp [hc] at h2⟩
def Closed (ops : Array Oper) (listed : Array Bool) : Prop := ∀ (j : Nat) (o : Oper), ops[j]? = some o → listed.getD j false = true → ∀ e ∈ edgesOf o, listed.getD e false = true
theorem mem_edges {o : Oper} {e : Nat} : e ∈ edgesOf o ↔ ∃ x ∈ o.after, Region.binds .any x = true ∧ x.on = e := by
  unfold edgesOf
  rw [List.mem_filterMap]
  constructor
  · rintro ⟨x, hx, h⟩
    split at h
    · rename_i hb; cases h; exact ⟨x, Array.mem_toList_iff.1 hx, hb, rfl⟩
    · cases h
  · rintro ⟨x, hx, hb, rfl⟩
    exact ⟨x, Array.mem_toList_iff.2 hx, by simp [hb]⟩
theorem ready_edges {j : Nat} {listed : Array Bool} (h : j ∈ Region.ready .any ops listed) : ∃ o, ops[j]? = some o ∧ listed.getD j true = false ∧ ∀ e ∈ edgesOf o, listed.getD e false = true := by
  obtain ⟨h0, o, ho, h1⟩ := mem_ready.1 h
  exact ⟨o, ho, h0, fun e he => by obtain ⟨x, hx, hb, rfl⟩ := mem_edges.1 he; exact h1 x hx hb⟩
theorem Closed.set {listed : Array Bool} (hc : Closed ops listed) {j : Nat} (h : j ∈ Region.ready .any ops listed) : Closed ops (listed.setIfInBounds j true) := by
  obtain ⟨o, ho, _, he⟩ := ready_edges h
  intro k ok hok hk e hek
  by_cases hjk : j = k
  · subst hjk
    rw [ho] at hok; cases hok
    exact getD_set_true (he e hek)
  · rw [getD_set_ne false hjk] at hk
    exact getD_set_true (hc k ok hok hk e hek)
theorem listed_lt {listed : Array Bool} {j : Nat} (h : listed.getD j true = false) : listed.getD j false = false := by
  rcases Nat.lt_or_ge j listed.size with h' | h'
  · simpa [h'] using h
  · simp [Array.getElem?_eq_none h']
theorem Closed.anc {M : List Nat} (hM : Tidy ops M) {listed : Array Bool} (hc : Closed ops listed) {i : Nat} (hi : i < ops.size) : ∀ (j : Nat) (o : Oper), ops[j]? = some o → (∀ e ∈ edgesOf o, listed.getD e false = true) → (M.getD j 0).testBit i = true → listed.getD i false = true := by
  intro j
  induction j using Nat.strongRecOn with
  | _ j ih =>
    intro o ho hall hb
    obtain ⟨e, he, h1 | h1⟩ := hM.anc j o i ho hi hb
    · subst h1; exact hall e he
    · have hlt := hM.back j o ho e he
      have hes : e < ops.size := Nat.lt_trans hlt (Array.getElem?_eq_some_iff.1 ho).1
      exact ih e hlt ops[e] (Array.getElem?_eq_getElem hes) (hc e ops[e] (Array.getElem?_eq_getElem hes) (hall e he)) h1
def PendOk (T : Ti) (ops : Array Oper) (pend : List (Nat × AV)) (f : Fm) (h : Hp) : Prop := ∀ p ∈ pend, lightV T ops h f p.1 = some p.2
def dropP (M : List Nat) (j : Nat) (pend : List (Nat × AV)) : List (Nat × AV) := pend.filter fun p => !(M.getD j 0).testBit p.1
variable (P T ops) in
def AnyD (M : List Nat) (rd : Option Nat) (K : Fm → St → Prop) : Nat → List (Nat × AV) → Array Bool → Fm → St → Prop
  | 0, pend, listed, f, st => PendOk T ops pend f st.h ∧ Region.ready .any ops listed = [] ∧ K f st
  | fuel + 1, pend, listed, f, st => PendOk T ops pend f st.h ∧ (Region.ready .any ops listed = [] → K f st) ∧
    ∀ j ∈ Region.ready .any ops listed, ∃ o, ops[j]? = some o ∧ OpsW P rd ops [j] (fun f' st' => ∃ v, f' = f.put o.dst v ∧ AnyD M rd K fuel (dropP M j pend) (listed.setIfInBounds j true) f' st') f st
theorem OpsW.mono {rd : Option Nat} {l : List Nat} {K K' : Fm → St → Prop} {f : Fm} {st : St} (h : OpsW P rd ops l K f st) (hk : ∀ f st, K f st → K' f st) : OpsW P rd ops l K' f st :=
  fun φ w a n Q h1 h2 h3 hQ => h φ w a n Q h1 h2 h3 fun a' w' ⟨f', st', φ', k, r⟩ => hQ a' w' ⟨f', st', φ', hk _ _ k, r⟩
theorem AnyD.pend {M : List Nat} {rd : Option Nat} {K : Fm → St → Prop} {fuel : Nat} {pend : List (Nat × AV)} {listed : Array Bool} {f : Fm} {st : St} (h : AnyD P T ops M rd K fuel pend listed f st) : PendOk T ops pend f st.h := by
  cases fuel <;> exact h.1
theorem AnyD.weaken {M : List Nat} {rd : Option Nat} {K : Fm → St → Prop} : ∀ (fuel : Nat) {pend pend' : List (Nat × AV)} {listed : Array Bool} {f : Fm} {st : St}, AnyD P T ops M rd K fuel pend listed f st → (∀ p ∈ pend', p ∈ pend) → AnyD P T ops M rd K fuel pend' listed f st
  | 0, _, _, _, _, _, h, hs => ⟨fun p hp => h.1 p (hs p hp), h.2⟩
  | fuel + 1, pend, pend', _, _, _, h, hs => ⟨fun p hp => h.1 p (hs p hp), h.2.1, fun j hj => by
      obtain ⟨o, ho, h1⟩ := h.2.2 j hj
      refine ⟨o, ho, h1.mono fun f' st' ⟨v, h2, h3⟩ => ⟨v, h2, AnyD.weaken fuel h3 fun p hp => ?_⟩⟩
      unfold dropP at *
      rw [List.mem_filter] at *
      exact ⟨hs p hp.1, hp.2⟩⟩
theorem wpOpIn_congr {F : Fence} {n : Nat} {Q1 Q2 : Exit → Act → World → Prop} {j : Nat} {o : Oper} {K1 K2 : Act → World → Prop} {a1 a2 : Act} {w : World} (hj : ops[j]? = some o) (hnd : ∀ c, o.op ≠ .defer c)
    (hw : Region.wanted o (yielded ops a1.tmps) = Region.wanted o (yielded ops a2.tmps)) (he : execOp a1.eval o = execOp a2.eval o) (hb : ∀ w, o.about P w a1.eval = o.about P w a2.eval)
    (hK : ∀ cv w', K1 (a1.put o.dst cv) w' → K2 (a2.put o.dst cv) w') (hD : ∀ d w', K1 ({ a1 with defers := d :: a1.defers }.put o.dst undef) w' → K2 ({ a2 with defers := d :: a2.defers }.put o.dst undef) w') (hQ : ∀ e a w, e ≠ .normal → Q1 e a w → Q2 e a2 w) (hl : LetsOut Q1 → LetsOut Q2)
    (h : wpOpIn F n P ops Q1 j K1 a1 w) : wpOpIn F n P ops Q2 j K2 a2 w := by
  unfold wpOpIn at *
  simp only [hj] at *
  rw [hw, hb w] at h
  split
  · rename_i hwn
    simp only [hwn, if_true] at h
    unfold Oper.wpIn at *
    rw [semAt_eq hnd, he, hb w] at h
    rw [semAt_eq hnd]
    refine ⟨h.1, ?_⟩
    obtain ⟨-, h⟩ := h
    generalize (execOp a2.eval o).run P w = r at *
    cases r with
    | ok x w' =>
      cases x <;> simp only [Oper.uponIn] at h ⊢
      case value u => exact hK u _ h
      case skip => exact hK _ _ h
      case defer d => exact hD d _ h
      case enter f args => exact ⟨h.1, CallsIn.mono h.2 fun e w'' he => by
        cases e with
        | returned u => exact hK u _ he
        | panicked c => exact hQ _ _ _ (by simp) he
        | outgrown => exact hl he⟩
      case row row args => exact ⟨h.1, RowsIn.mono h.2 fun u w'' he => hK u _ he⟩
      case round l f tmps assign body => exact ⟨h.1, RoundIn.mono h.2 fun e w'' he => by
        cases e with
        | returned u => exact hK u _ he
        | panicked c => exact hQ _ _ _ (by simp) he
        | outgrown => exact hl he⟩
    | halt x w' =>
      cases x <;> simp only [Oper.uponIn] at h ⊢
      case panic u => exact hQ _ _ _ (by simp) h
  · rename_i hwn
    simp only [hwn] at h
    exact ⟨h.1, hK _ _ h.2⟩
theorem OpsW.unput {M : List Nat} (hM : Tidy ops M) (hT : TOk P T) {rd : Option Nat} {i j : Nat} {oi oj : Oper} {r : AV} {K : Fm → St → Prop} {f : Fm} {st : St} (hi : ops[i]? = some oi) (hj : ops[j]? = some oj)
    (h1 : ∀ d, oi.dst = some d → d ∉ oj.looksAt ops) (h2 : ∀ d, oi.dst = some d → oj.dst ≠ some d) (hr : lightV T ops st.h f i = some r)
    (h : OpsW P rd ops [j] (fun f' st' => ∃ v, f' = (f.put oi.dst r).put oj.dst v ∧ K (f.put oj.dst v) st') (f.put oi.dst r) st) :
    OpsW P rd ops [j] (fun f' st' => ∃ v, f' = f.put oj.dst v ∧ K f' st') f st := by
  intro φ w a n Q hrd hrel hact hQ
  obtain ⟨u, hu⟩ : ∃ u, VR φ r u := by
    unfold lightV at hr
    simp only [hi] at hr
    split at hr
    · obtain ⟨u, h3, _⟩ := evG_ok (P := P) hT hrel (opR_of hact.ts) hr
      exact ⟨u, h3⟩
    · cases hr; exact ⟨undef, .lit _⟩
  have hp := hM.plain j oj hj
  let X : Act → World → Prop := Lift φ st w (fun _ f' st' => ∃ v, f' = (f.put oi.dst r).put oj.dst v ∧ K (f.put oj.dst v) st') .normal
  have h3 := h φ w (a.put oi.dst u) n (fun e a w => e = .normal ∧ X a w) hrd hrel (hact.put oi.dst hu) (fun a' w' hl => ⟨rfl, hl⟩)
  rw [wpOpsIn_cons] at h3 ⊢
  refine wpOpIn_congr hj hp.2 (wanted_put oj a oi.dst u h1) (execOp_put oj hp.1 a oi.dst u h1) (fun w => about_put oj w a oi.dst u h1) (fun cv w' hk => ?_) (fun d w' hk => ?_) (fun e a w hne hk => absurd hk.1 hne) (fun hl => ?_) h3
  · obtain ⟨_, f', st', φ', ⟨v, rfl, hk⟩, he, hrel', hact', hf⟩ := hk
    refine hQ _ _ ⟨f.put oj.dst v, st', φ', ⟨v, rfl, hk⟩, he, hrel', ?_, hf⟩
    cases hd : oj.dst with
    | none => exact hact.mono he
    | some d =>
      rw [hd] at hact'
      by_cases hlt : d < f.ts.length
      · refine (hact.mono he).put (some d) ?_
        have hlt' : d < (f.put oi.dst r).ts.length := by cases oi.dst <;> simpa [Fm.put] using hlt
        obtain ⟨x, hx1, hx2⟩ := hact'.ts.get d v (by show ((f.put oi.dst r).ts.set d v)[d]? = some v; simp [hlt'])
        have hlc : d < (a.put oi.dst u).tmps.size := by
          have h5 := (hact.put oi.dst hu).ts.length
          rw [Array.length_toList] at h5
          exact Nat.lt_of_lt_of_eq hlt' h5
        have : ((a.put oi.dst u).put (some d) cv).tmps.toList[d]? = some cv := by
          show ((a.put oi.dst u).tmps.setIfInBounds d cv).toList[d]? = some cv
          rw [Array.toList_setIfInBounds]
          simp [hlc]
        rw [this] at hx1
        cases hx1
        exact hx2
      · have e1 : f.put (some d) v = f := by
          cases f with | mk ts dm => simp only [Fm.put]; congr 1; exact List.set_eq_of_length_le (by simpa using hlt)
        have hlc : ¬ d < a.tmps.size := by
          have h5 := hact.ts.length
          rw [Array.length_toList] at h5
          exact fun h6 => hlt (Nat.lt_of_lt_of_eq h6 h5.symm)
        have e2 : a.put (some d) cv = a := by
          cases a with | mk tmps defers => simp only [Act.put]; congr 1; exact Array.setIfInBounds_eq_of_size_le (by simpa using hlc)
        rw [e1, e2]
        exact hact.mono he
  · exfalso
    obtain ⟨_, f', st', φ', ⟨v, rfl, hk⟩, he, hrel', hact', hf⟩ := hk
    have e1 := congrArg List.length hact'.dm
    have e2 := congrArg List.length hact.dm
    have e3 : ((f.put oi.dst r).put oj.dst v).dm = f.dm := by cases oi.dst <;> cases oj.dst <;> rfl
    rw [e3] at e1
    cases hdi : oi.dst <;> cases hdj : oj.dst <;> simp [hdi, hdj, Act.put] at e1 e2 <;> omega
  · obtain ⟨a, w, hn, _⟩ := hl
    cases hn
theorem Fm.put_comm (f : Fm) {x y : Option Tmp} (v u : AV) (h : ∀ d, x = some d → y ≠ some d) : (f.put x v).put y u = (f.put y u).put x v := by
  cases x with
  | none => rfl
  | some d =>
    cases y with
    | none => rfl
    | some e =>
      have hne : d ≠ e := fun he => h d rfl (he ▸ rfl)
      simp [Fm.put, List.set_comm _ _ hne]
theorem OpsW.lightV (hT : TOk P T) {rd : Option Nat} {i : Nat} {l : List Nat} {K : Fm → St → Prop} {f : Fm} {st : St} {o : Oper} {r : AV} (ho : ops[i]? = some o) (hr : lightV T ops st.h f i = some r) (h : OpsW P rd ops l K (f.put o.dst r) st) : OpsW P rd ops (i :: l) K f st := by
  unfold Ev.lightV at hr
  simp only [ho] at hr
  split at hr
  · rename_i hw; exact .light hT ho hw hr h
  · rename_i hw; cases hr; exact .skip ho (by simpa using hw) h
def PL (pend : List (Nat × AV)) (listed : Array Bool) : Prop := ∀ p ∈ pend, listed.getD p.1 false = true
theorem AnyD.take {M : List Nat} (hM : Tidy ops M) (hT : TOk P T) {rd : Option Nat} {K : Fm → St → Prop} {i : Nat} {oi : Oper} {r : AV} (hi : ops[i]? = some oi) : ∀ (fuel : Nat) {pend : List (Nat × AV)} {listed : Array Bool} {f : Fm} {st : St},
    Closed ops listed → PL pend listed → (∀ p ∈ pend, ∀ o, ops[p.1]? = some o → ∀ d, oi.dst = some d → d ∉ o.looksAt ops) → i ∈ Region.ready .any ops listed → lightV T ops st.h f i = some r → AnyD P T ops M rd K fuel ((i, r) :: pend) (listed.setIfInBounds i true) (f.put oi.dst r) st →
    AnyD P T ops M rd K (fuel + 1) pend listed f st := by
  intro fuel
  have his : i < ops.size := (Array.getElem?_eq_some_iff.1 hi).1
  have hpend : ∀ {pend : List (Nat × AV)} {f : Fm} {h : Hp}, (∀ p ∈ pend, ∀ o, ops[p.1]? = some o → ∀ d, oi.dst = some d → d ∉ o.looksAt ops) → PendOk T ops ((i, r) :: pend) (f.put oi.dst r) h → PendOk T ops pend f h := by
    intro pend f h hpd hp p hpm
    have h1 := hp p (List.mem_cons_of_mem _ hpm)
    rwa [lightV_put (fun o ho d hd => hpd p hpm o ho d hd)] at h1
  have hself : ∀ {pend : List (Nat × AV)} {listed : Array Bool} {f : Fm} {st : St} {fuel : Nat}, AnyD P T ops M rd K fuel ((i, r) :: pend) (listed.setIfInBounds i true) (f.put oi.dst r) st → lightV T ops st.h f i = some r →
      ∃ o, ops[i]? = some o ∧ OpsW P rd ops [i] (fun f' st' => ∃ v, f' = f.put o.dst v ∧ AnyD P T ops M rd K fuel (dropP M i pend) (listed.setIfInBounds i true) f' st') f st := fun H hr =>
    ⟨oi, hi, OpsW.lightV hT hi hr (.nil ⟨r, rfl, H.weaken _ fun p hp => List.mem_cons_of_mem _ (List.mem_filter.1 hp).1⟩)⟩
  induction fuel with
  | zero =>
    intro pend listed f st hc hpl hpd hr hl H
    refine ⟨hpend hpd H.pend, fun h => (by rw [h] at hr; cases hr), fun j hj => ?_⟩
    by_cases hji : j = i
    · subst hji; exact hself H hl
    · have := ready_mono hj hji
      rw [H.2.1] at this
      cases this
  | succ fuel ih =>
    intro pend listed f st hc hpl hpd hr hl H
    refine ⟨hpend hpd H.pend, fun h => (by rw [h] at hr; cases hr), fun j hj => ?_⟩
    by_cases hji : j = i
    · subst hji; exact hself H hl
    · obtain ⟨oj, hoj, h1⟩ := H.2.2 j (ready_mono hj hji)
      obtain ⟨oj', hoj', hjun, hje⟩ := ready_edges hj
      rw [hoj] at hoj'; cases hoj'
      obtain ⟨oi', hoi', hiun, hie'⟩ := ready_edges hr
      rw [hi] at hoi'; cases hoi'
      have hnot : (M.getD j 0).testBit i = false := by
        cases hb : (M.getD j 0).testBit i with
        | false => rfl
        | true => have := Closed.anc hM hc his j oj hoj hje hb; rw [listed_lt hiun] at this; cases this
      have hd1 : ∀ d, oi.dst = some d → d ∉ oj.looksAt ops := fun d hd hm => by
        rcases (hM.see i j oi oj hi hoj (Ne.symm hji) d hd).1 hm with h5 | h5
        · rw [hnot] at h5; cases h5
        · have := Closed.anc hM hc (Array.getElem?_eq_some_iff.1 hoj).1 i oi hi hie' h5
          rw [listed_lt hjun] at this; cases this
      have hd2 : ∀ d, oi.dst = some d → oj.dst ≠ some d := fun d hd => (hM.see i j oi oj hi hoj (Ne.symm hji) d hd).2
      refine ⟨oj, hoj, OpsW.unput (K := fun f' st' => AnyD P T ops M rd K (fuel + 1) (dropP M j pend) (listed.setIfInBounds j true) f' st') hM hT hi hoj hd1 hd2 hl (h1.mono fun f' st' ⟨v, hf, h2⟩ => ⟨v, hf, ?_⟩)⟩
      subst hf
      have h3 : dropP M j ((i, r) :: pend) = (i, r) :: dropP M j pend := by unfold dropP; rw [List.filter_cons]; simp only [hnot, Bool.not_false, if_true]
      rw [h3, Array.setIfInBounds_comm _ _ (Ne.symm hji), Fm.put_comm _ _ _ hd2] at h2
      refine ih (hc.set hj) (fun p hp => getD_set_true (hpl p (List.mem_filter.1 hp).1)) (fun p hp => hpd p (List.mem_filter.1 hp).1) (ready_mono hr (Ne.symm hji)) ?_ h2
      have h4 := h2.pend (i, r) (by simp)
      rwa [lightV_put (fun o ho d hd => by rw [hi] at ho; cases ho; exact hM.self i oi hi d hd)] at h4
theorem AnyD.done {M : List Nat} {rd : Option Nat} {K : Fm → St → Prop} {pend : List (Nat × AV)} {listed : Array Bool} {f : Fm} {st : St} (hp : PendOk T ops pend f st.h) (hr : Region.ready .any ops listed = []) (h : K f st) : ∀ fuel, AnyD P T ops M rd K fuel pend listed f st
  | 0 => ⟨hp, hr, h⟩
  | _ + 1 => ⟨hp, fun _ => h, by rw [hr]; simp⟩
theorem AnyD.all {M : List Nat} {rd : Option Nat} {K : Fm → St → Prop} {fuel : Nat} {pend : List (Nat × AV)} {listed : Array Bool} {f : Fm} {st : St} {rs : List Nat} (hp : PendOk T ops pend f st.h) (hr : Region.ready .any ops listed = rs) (hne : rs ≠ [])
    (h : ∀ j ∈ rs, ∃ o, ops[j]? = some o ∧ OpsW P rd ops [j] (fun f' st' => ∃ v, f' = f.put o.dst v ∧ AnyD P T ops M rd K fuel (dropP M j pend) (listed.setIfInBounds j true) f' st') f st) : AnyD P T ops M rd K (fuel + 1) pend listed f st :=
  ⟨hp, fun h0 => absurd (hr ▸ h0) hne, hr ▸ h⟩
theorem AnyD.sound {M : List Nat} (hM : Tidy ops M) {rd : Option Nat} {K : Fm → St → Prop} : ∀ (fuel : Nat) {pend : List (Nat × AV)} {listed : Array Bool} {f : Fm} {st : St}, AnyD P T ops M rd K fuel pend listed f st →
    ∀ (φ : Fi) (w : World) (a : Act) (n : Nat) (Q : Exit → Act → World → Prop), (∀ id, rd = some id → id < φ.n) → Rel φ st w → ActR φ f a → (∀ a' w', Lift φ st w (fun _ f' st' => K f' st') .normal a' w' → Q .normal a' w') →
      wpAnyIn (FW (rdB φ rd)) n P .any ops Q fuel listed a w
  | 0, _, _, _, _, h, _, _, _, _, _, _, h2, h3, hQ => ⟨h.2.1, hQ _ _ (Lift.here h.2.2 h2 h3)⟩
  | fuel + 1, pend, listed, f, st, h, φ, w, a, n, Q, h1, h2, h3, hQ => by
    refine ⟨fun hr => hQ _ _ (Lift.here (h.2.1 hr) h2 h3), fun j hj => ?_⟩
    obtain ⟨o, ho, h4⟩ := h.2.2 j hj
    have hp := hM.plain j o ho
    have h5 := h4 φ w a n (fun e a' w' => e = .normal ∧ wpAnyIn (FW (rdB φ rd)) n P .any ops Q fuel (listed.setIfInBounds j true) a' w') h1 h2 h3 (fun a' w' hl => ⟨rfl, by
      obtain ⟨f', st', φ', ⟨v, hf, hk⟩, he, hrel, hact, hfr⟩ := hl
      have h6 := AnyD.sound hM fuel hk φ' w' a' n Q (fun id hi => Nat.lt_of_lt_of_le (h1 id hi) he.n) hrel hact (fun a2 w2 hl2 => hQ a2 w2 (hl2.trans he hfr))
      rwa [rdB_ext he h1] at h6⟩)
    rw [wpOpsIn_cons] at h5
    exact wpOpIn_congr ho hp.2 rfl rfl (fun _ => rfl) (fun cv w' hk => hk.2) (fun d w' hk => hk.2) (fun e a w hne hk => absurd hk.1 hne) (fun hl => by obtain ⟨a, w, hn, _⟩ := hl; cases hn) h5
theorem SW.drawn {M : List Nat} (hm : P.follows .mixedOrders = true) {rd : Option Nat} {id : Nat} {Q : Exit → Fm → St → Prop} {f : Fm} {st : St} (hM : Tidy ops M)
    (h : AnyD P T ops M rd (fun f' st' => Q .normal f' st') ops.size [] (Array.replicate ops.size false) f st) : SW P rd (.region id ops true) Q f st := by
  intro φ w a n h1 h2 h3
  refine wpIn_region_any hm ?_
  have hrel : Rel φ st { w with drawn := w.drawn + 1 } := h2.of_heap rfl
  refine AnyD.sound hM ops.size h φ _ a n _ h1 hrel h3 fun a' w' hl => ?_
  obtain ⟨f', st', φ', k, he, hr, ha, hf⟩ := hl
  exact ⟨f', st', φ', k, he, hr, ha, ⟨hf.os, hf.tape, hf.output, hf.size, hf.block, hf.own⟩⟩
theorem closed_nil : Closed ops (Array.replicate ops.size false) := fun j o ho hl => by
  exfalso
  simp only [Array.getD_eq_getD_getElem?, Array.getElem?_replicate] at hl
  split at hl <;> simp at hl
end
end Go.Ev
namespace Go.Ev
section
variable {P : Program} {T : Ti} {ops : Array Oper}
def DlOk (T : Ti) (ops : Array Oper) (dl : Nat → Option (List Value)) : Prop := ∀ i cs, dl i = some cs → ∃ o e ti, ops[i]? = some o ∧ o.op = .alloc e ∧ o.guard = none ∧ edgesOf o = [] ∧ T e = some ti ∧ cs = ti.zero
def DlSep (ops : Array Oper) (M : List Nat) (dl : Nat → Option (List Value)) (lt : Nat → Bool) : Prop := (∀ i, (dl i).isSome = true → lt i = false) ∧ ∀ (i j u : Nat) (oj ou : Oper), (dl i).isSome = true → ops[j]? = some oj → ops[u]? = some ou → i ∈ edgesOf oj → u = j ∨ (M.getD j 0).testBit u = true ∨ i ∈ edgesOf ou ∨ ((dl u).isSome = true ∧ i ≤ u) ∨ lt u = true
def LeftC (ops : Array Oper) (dl : Nat → Option (List Value)) (lt : Nat → Bool) (listed : Array Bool) : Prop := ∀ (u : Nat) (ou : Oper), ops[u]? = some ou → listed.getD u true = false → (dl u).isSome = true ∨ lt u = true ∨ ∃ i, (dl i).isSome = true ∧ listed.getD i true = false ∧ i ∈ edgesOf ou
variable (P T ops) in
def AnyA (M : List Nat) (rd : Option Nat) (dl : Nat → Option (List Value)) (lt : Nat → Bool) (K : Fm → St → Prop) : Nat → List (Nat × AV) → Array Bool → Fm → St → Prop
  | 0, pend, listed, f, st => PendOk T ops pend f st.h ∧ Region.ready .any ops listed = [] ∧ K f st
  | fuel + 1, pend, listed, f, st => PendOk T ops pend f st.h ∧ (Region.ready .any ops listed = [] → K f st) ∧
    (∀ j ∈ Region.ready .any ops listed, dl j = none → ∃ o, ops[j]? = some o ∧ OpsW P rd ops [j] (fun f' st' => ∃ v, f' = f.put o.dst v ∧ AnyA M rd dl lt K fuel (dropP M j pend) (listed.setIfInBounds j true) f' st') f st) ∧
    (LeftC ops dl lt listed → (∃ k, (dl k).isSome = true ∧ listed.getD k true = false) → ∃ i cs, dl i = some cs ∧ listed.getD i true = false ∧ (∀ k, (dl k).isSome = true → listed.getD k true = false → i ≤ k) ∧
      (∀ id o, st.h.get id = some o → o.own = true) ∧ ∃ o, ops[i]? = some o ∧ AnyA M rd dl lt K fuel (dropP M i pend) (listed.setIfInBounds i true) (f.put o.dst (.ptr st.n 0)) (st.push (.cells none false (cs.map .lit))))
theorem LeftC.set {dl : Nat → Option (List Value)} {lt : Nat → Bool} {listed : Array Bool} {i : Nat} (hd : dl i = none) (h : LeftC ops dl lt listed) : LeftC ops dl lt (listed.setIfInBounds i true) := fun u ou hu hun => by
  by_cases hiu : i = u
  · subst hiu
    by_cases hs : i < listed.size
    · simp [hs] at hun
    · simp [Array.getElem?_eq_none (show listed.size ≤ i by omega)] at hun
  · rw [getD_set_ne true hiu] at hun
    rcases h u ou hu hun with h1 | h1 | ⟨k, h1, h2, h3⟩
    · exact .inl h1
    · exact .inr (.inl h1)
    · exact .inr (.inr ⟨k, h1, by rw [getD_set_ne true (fun e => by subst e; rw [hd] at h1; cases h1)]; exact h2, h3⟩)
theorem AnyA.pend {M : List Nat} {rd : Option Nat} {dl : Nat → Option (List Value)} {lt : Nat → Bool} {K : Fm → St → Prop} {fuel : Nat} {pend : List (Nat × AV)} {listed : Array Bool} {f : Fm} {st : St} (h : AnyA P T ops M rd dl lt K fuel pend listed f st) : PendOk T ops pend f st.h := by
  cases fuel <;> exact h.1
theorem AnyA.weaken {M : List Nat} {rd : Option Nat} {dl : Nat → Option (List Value)} {lt : Nat → Bool} {K : Fm → St → Prop} : ∀ (fuel : Nat) {pend pend' : List (Nat × AV)} {listed : Array Bool} {f : Fm} {st : St}, AnyA P T ops M rd dl lt K fuel pend listed f st → (∀ p ∈ pend', p ∈ pend) → AnyA P T ops M rd dl lt K fuel pend' listed f st
  | 0, _, _, _, _, _, h, hs => ⟨fun p hp => h.1 p (hs p hp), h.2⟩
  | fuel + 1, pend, pend', _, _, _, h, hs => by
    have hd : ∀ j, ∀ p ∈ dropP M j pend', p ∈ dropP M j pend := fun j p hp => by
      unfold dropP at *
      rw [List.mem_filter] at *
      exact ⟨hs p hp.1, hp.2⟩
    refine ⟨fun p hp => h.1 p (hs p hp), h.2.1, fun j hj hn => ?_, fun hC hex => ?_⟩
    · obtain ⟨o, ho, h1⟩ := h.2.2.1 j hj hn
      exact ⟨o, ho, h1.mono fun f' st' ⟨v, h2, h3⟩ => ⟨v, h2, AnyA.weaken fuel h3 (hd j)⟩⟩
    · obtain ⟨i, cs, k1, k2, k3, h1, o, ho, h2⟩ := h.2.2.2 hC hex
      exact ⟨i, cs, k1, k2, k3, h1, o, ho, AnyA.weaken fuel h2 (hd i)⟩
theorem AnyA.take {M : List Nat} (hM : Tidy ops M) (hT : TOk P T) {rd : Option Nat} {dl : Nat → Option (List Value)} {lt : Nat → Bool} {K : Fm → St → Prop} {i : Nat} {oi : Oper} {r : AV} (hi : ops[i]? = some oi) (hdl : dl i = none) (hDl : DlOk T ops dl) : ∀ (fuel : Nat) {pend : List (Nat × AV)} {listed : Array Bool} {f : Fm} {st : St},
    Closed ops listed → PL pend listed → (∀ p ∈ pend, ∀ o, ops[p.1]? = some o → ∀ d, oi.dst = some d → d ∉ o.looksAt ops) → i ∈ Region.ready .any ops listed → lightV T ops st.h f i = some r → AnyA P T ops M rd dl lt K fuel ((i, r) :: pend) (listed.setIfInBounds i true) (f.put oi.dst r) st →
    AnyA P T ops M rd dl lt K (fuel + 1) pend listed f st := by
  intro fuel
  have his : i < ops.size := (Array.getElem?_eq_some_iff.1 hi).1
  have hpend : ∀ {pend : List (Nat × AV)} {f : Fm} {h : Hp}, (∀ p ∈ pend, ∀ o, ops[p.1]? = some o → ∀ d, oi.dst = some d → d ∉ o.looksAt ops) → PendOk T ops ((i, r) :: pend) (f.put oi.dst r) h → PendOk T ops pend f h := by
    intro pend f h hpd hp p hpm
    have h1 := hp p (List.mem_cons_of_mem _ hpm)
    rwa [lightV_put (fun o ho d hd => hpd p hpm o ho d hd)] at h1
  have hself : ∀ {pend : List (Nat × AV)} {listed : Array Bool} {f : Fm} {st : St} {fuel : Nat}, AnyA P T ops M rd dl lt K fuel ((i, r) :: pend) (listed.setIfInBounds i true) (f.put oi.dst r) st → lightV T ops st.h f i = some r →
      ∃ o, ops[i]? = some o ∧ OpsW P rd ops [i] (fun f' st' => ∃ v, f' = f.put o.dst v ∧ AnyA P T ops M rd dl lt K fuel (dropP M i pend) (listed.setIfInBounds i true) f' st') f st := fun H hr =>
    ⟨oi, hi, OpsW.lightV hT hi hr (.nil ⟨r, rfl, H.weaken _ fun p hp => List.mem_cons_of_mem _ (List.mem_filter.1 hp).1⟩)⟩
  induction fuel with
  | zero =>
    intro pend listed f st hc hpl hpd hr hl H
    refine ⟨hpend hpd H.pend, fun h => (by rw [h] at hr; cases hr), fun j hj hn => ?_, fun _ ⟨k, hk1, hk2⟩ => ?_⟩
    · by_cases hji : j = i
      · subst hji; exact hself H hl
      · have := ready_mono hj hji
        rw [H.2.1] at this
        cases this
    · exfalso
      obtain ⟨cs, hcs⟩ := Option.isSome_iff_exists.1 hk1
      obtain ⟨o, e, ti, ho, _, _, hed, _⟩ := hDl k cs hcs
      have hki : k ≠ i := fun e => by subst e; rw [hdl] at hcs; cases hcs
      have hkr : k ∈ Region.ready .any ops listed := mem_ready.2 ⟨hk2, o, ho, fun e hem hb => by
        have : e.on ∈ edgesOf o := mem_edges.2 ⟨e, hem, hb, rfl⟩
        rw [hed] at this; cases this⟩
      have := ready_mono hkr hki
      rw [H.2.1] at this
      cases this
  | succ fuel ih =>
    intro pend listed f st hc hpl hpd hr hl H
    refine ⟨hpend hpd H.pend, fun h => (by rw [h] at hr; cases hr), fun j hj hn => ?_, fun hC ⟨k0, hk1, hk2⟩ => ?_⟩
    rotate_left
    · have hk0i : k0 ≠ i := fun e => by subst e; rw [hdl] at hk1; cases hk1
      obtain ⟨i0, cs, q1, q2, q3, q4, o, ho, H2⟩ := H.2.2.2 (hC.set hdl) ⟨k0, hk1, by rw [getD_set_ne true (Ne.symm hk0i)]; exact hk2⟩
      have hi0i : i0 ≠ i := fun e => by subst e; rw [hdl] at q1; cases q1
      rw [getD_set_ne true (Ne.symm hi0i)] at q2
      obtain ⟨o', e, ti, ho', _, _, hed, _⟩ := hDl i0 cs q1
      rw [ho] at ho'; cases ho'
      have hi0r : i0 ∈ Region.ready .any ops listed := mem_ready.2 ⟨q2, o, ho, fun e hem hb => by
        have : e.on ∈ edgesOf o := mem_edges.2 ⟨e, hem, hb, rfl⟩
        rw [hed] at this; cases this⟩
      have hnot : (M.getD i0 0).testBit i = false := by
        cases hb : (M.getD i0 0).testBit i with
        | false => rfl
        | true => obtain ⟨e, he, _⟩ := hM.anc i0 o i ho his hb; rw [hed] at he; cases he
      have hd2 : ∀ d, oi.dst = some d → o.dst ≠ some d := fun d hd => (hM.see i i0 oi o hi ho (Ne.symm hi0i) d hd).2
      refine ⟨i0, cs, q1, q2, fun k hk hku => q3 k hk (by rw [getD_set_ne true (fun e => by subst e; rw [hdl] at hk; cases hk)]; exact hku), q4, o, ho, ?_⟩
      have h3 : dropP M i0 ((i, r) :: pend) = (i, r) :: dropP M i0 pend := by unfold dropP; rw [List.filter_cons]; simp only [hnot, Bool.not_false, if_true]
      rw [h3, Array.setIfInBounds_comm _ _ (Ne.symm hi0i), Fm.put_comm _ _ _ hd2] at H2
      refine ih (hc.set hi0r) (fun p hp => getD_set_true (hpl p (List.mem_filter.1 hp).1)) (fun p hp => hpd p (List.mem_filter.1 hp).1) (ready_mono hr (Ne.symm hi0i)) ?_ H2
      have h4 := H2.pend (i, r) (by simp)
      rwa [lightV_put (fun o ho d hd => by rw [hi] at ho; cases ho; exact hM.self i oi hi d hd)] at h4
    by_cases hji : j = i
    · subst hji; exact hself H hl
    · obtain ⟨oj, hoj, h1⟩ := H.2.2.1 j (ready_mono hj hji) hn
      obtain ⟨oj', hoj', hjun, hje⟩ := ready_edges hj
      rw [hoj] at hoj'; cases hoj'
      obtain ⟨oi', hoi', hiun, hie'⟩ := ready_edges hr
      rw [hi] at hoi'; cases hoi'
      have hnot : (M.getD j 0).testBit i = false := by
        cases hb : (M.getD j 0).testBit i with
        | false => rfl
        | true => have := Closed.anc hM hc his j oj hoj hje hb; rw [listed_lt hiun] at this; cases this
      have hd1 : ∀ d, oi.dst = some d → d ∉ oj.looksAt ops := fun d hd hm => by
        rcases (hM.see i j oi oj hi hoj (Ne.symm hji) d hd).1 hm with h5 | h5
        · rw [hnot] at h5; cases h5
        · have := Closed.anc hM hc (Array.getElem?_eq_some_iff.1 hoj).1 i oi hi hie' h5
          rw [listed_lt hjun] at this; cases this
      have hd2 : ∀ d, oi.dst = some d → oj.dst ≠ some d := fun d hd => (hM.see i j oi oj hi hoj (Ne.symm hji) d hd).2
      refine ⟨oj, hoj, OpsW.unput (K := fun f' st' => AnyA P T ops M rd dl lt K (fuel + 1) (dropP M j pend) (listed.setIfInBounds j true) f' st') hM hT hi hoj hd1 hd2 hl (h1.mono fun f' st' ⟨v, hf, h2⟩ => ⟨v, hf, ?_⟩)⟩
      subst hf
      have h3 : dropP M j ((i, r) :: pend) = (i, r) :: dropP M j pend := by unfold dropP; rw [List.filter_cons]; simp only [hnot, Bool.not_false, if_true]
      rw [h3, Array.setIfInBounds_comm _ _ (Ne.symm hji), Fm.put_comm _ _ _ hd2] at h2
      refine ih (hc.set hj) (fun p hp => getD_set_true (hpl p (List.mem_filter.1 hp).1)) (fun p hp => hpd p (List.mem_filter.1 hp).1) (ready_mono hr (Ne.symm hji)) ?_ h2
      have h4 := h2.pend (i, r) (by simp)
      rwa [lightV_put (fun o ho d hd => by rw [hi] at ho; cases ho; exact hM.self i oi hi d hd)] at h4
end
end Go.Ev
namespace Go.Ev
structure Gh where
  i : Nat
  b : Nat
  c : Array Value
  t : TypeId
  d : Option Tmp
def Gh.v (g : Gh) : Value := .pointer (some ⟨g.b, 0, none⟩)
def putsG (a : Act) : List Gh → Act
  | [] => a
  | g :: G => (putsG a G).put g.d g.v
theorem Act.put_comm (a : Act) {x y : Option Tmp} (v u : Value) (h : ∀ d, x = some d → y ≠ some d) : (a.put x v).put y u = (a.put y u).put x v := by
  cases x with
  | none => rfl
  | some d =>
    cases y with
    | none => rfl
    | some e =>
      have hne : d ≠ e := fun he => h d rfl (he ▸ rfl)
      simp only [Act.put]
      congr 1
      exact Array.setIfInBounds_comm _ _ hne
theorem putsG_comm {y : Option Tmp} {u : Value} : ∀ {G : List Gh} (a : Act), (∀ g ∈ G, ∀ d, g.d = some d → y ≠ some d) → (putsG a G).put y u = putsG (a.put y u) G
  | [], a, _ => rfl
  | g :: G, a, h => by
    show ((putsG a G).put g.d g.v).put y u = (putsG (a.put y u) G).put g.d g.v
    rw [Act.put_comm _ _ _ (h g List.mem_cons_self), putsG_comm a fun g hg => h g (List.mem_cons_of_mem _ hg)]
theorem putsG_app (a : Act) (G2 : List Gh) : ∀ G1 : List Gh, putsG a (G1 ++ G2) = putsG (putsG a G2) G1
  | [] => rfl
  | g :: G1 => by
    show (putsG a (G1 ++ G2)).put g.d g.v = (putsG (putsG a G2) G1).put g.d g.v
    rw [putsG_app a G2 G1]
theorem putsG_mid (a : Act) {G1 G2 : List Gh} {g : Gh} (h : ∀ x ∈ G2, ∀ d, x.d = some d → g.d ≠ some d) : putsG a (G1 ++ g :: G2) = putsG (a.put g.d g.v) (G1 ++ G2) := by
  rw [putsG_app, putsG_app]
  show putsG ((putsG a G2).put g.d g.v) G1 = _
  rw [putsG_comm a h]
theorem putsG_defers (a : Act) (d : Deferred) : ∀ G : List Gh, putsG { a with defers := d :: a.defers } G = { putsG a G with defers := d :: (putsG a G).defers }
  | [] => rfl
  | g :: G => by
    show (putsG { a with defers := d :: a.defers } G).put g.d g.v = _
    rw [putsG_defers a d G]
    show _ = { (putsG a G).put g.d g.v with defers := d :: ((putsG a G).put g.d g.v).defers }
    cases g.d <;> rfl
section
variable {P : Program} {T : Ti} {ops : Array Oper}
theorem putsG_exec (oj : Oper) (hp : (∀ cs b, oj.op ≠ .select cs b) ∧ ∀ c, oj.op ≠ .defer c) : ∀ {G : List Gh} (a : Act), (∀ g ∈ G, ∀ d, g.d = some d → d ∉ oj.looksAt ops) →
    Region.wanted oj (yielded ops a.tmps) = Region.wanted oj (yielded ops (putsG a G).tmps) ∧ execOp a.eval oj = execOp (putsG a G).eval oj ∧ ∀ w, oj.about P w a.eval = oj.about P w (putsG a G).eval
  | [], a, _ => ⟨rfl, rfl, fun _ => rfl⟩
  | g :: G, a, h => by
    obtain ⟨h1, h2, h3⟩ := putsG_exec oj hp (G := G) a fun x hx => h x (List.mem_cons_of_mem _ hx)
    have hg := h g List.mem_cons_self
    refine ⟨h1.trans (wanted_put oj (putsG a G) g.d g.v hg).symm, h2.trans (execOp_put oj hp.1 (putsG a G) g.d g.v hg).symm, fun w => (h3 w).trans (about_put oj w (putsG a G) g.d g.v hg).symm⟩
structure GOne (ops : Array Oper) (dl : Nat → Option (List Value)) (φ : Fi) (st : St) (w0 w : World) (listed : Array Bool) (g : Gh) : Prop where
  op : ∃ o, ops[g.i]? = some o ∧ o.dst = g.d
  cells : dl g.i = some g.c.toList
  un : listed.getD g.i true = false
  heap : w.heap[g.b]? = some (.cells g.c g.t (0, 0))
  late : w0.heap.size ≤ g.b
  apart : ∀ id x, st.h.get id = some x → x.own = true → (φ.f id).b ≠ g.b
structure GAll (ops : Array Oper) (dl : Nat → Option (List Value)) (φ : Fi) (st : St) (w0 w : World) (listed lr : Array Bool) (G : List Gh) : Prop where
  each : ∀ g ∈ G, GOne ops dl φ st w0 w listed g
  ids : (G.map (·.i)).Nodup
  blocks : (G.map (·.b)).Nodup
  sl : listed.size = ops.size
  sr : lr.size = ops.size
  bits : ∀ k, k < ops.size → (lr.getD k true = true ↔ listed.getD k true = true ∨ ∃ g ∈ G, g.i = k)
  cl : Closed ops lr
  cl2 : Closed ops listed
theorem getD_tf {l : Array Bool} {k : Nat} (h : k < l.size) : l.getD k true = l.getD k false := by simp [h]
theorem Rel.ghost {φ : Fi} {st : St} {w : World} (hr : Rel φ st w) {b : Nat} {c : Array Value} {t : TypeId} (hb : w.heap[b]? = some (.cells c t (0, 0))) (hown : ∀ id o, st.h.get id = some o → o.own = true) (hap : ∀ id x, st.h.get id = some x → x.own = true → (φ.f id).b ≠ b) :
    Rel (φ.push ⟨b, 0, c.size⟩) (st.push (.cells none false (c.toList.map .lit))) w := by
  have hold : ∀ id x, st.h.get id = some x → id < φ.n ∧ (φ.push ⟨b, 0, c.size⟩).f id = φ.f id := fun id x hx => by
    have h1 := hr.lt id x hx
    rw [← hr.n] at h1
    exact ⟨h1, (φ.push_ext _).f id h1⟩
  have hbs : b < w.heap.size := (Array.getElem?_eq_some_iff.1 hb).1
  refine ⟨by simp [Fi.push, St.push, hr.n], fun id x hx => ?_, fun id x hx => ?_, fun id x hx => ?_, fun i j oi oj hi hj hij ho => ?_⟩
  · rw [St.get_push] at hx
    split at hx
    · show _ < st.n + 1; omega
    · show _ < st.n + 1; have := hr.lt id x hx; omega
  · rw [St.get_push] at hx
    split at hx
    · rename_i h; rw [← hr.n] at h; subst h; rw [Fi.push_new]; exact hbs
    · rw [(hold id x hx).2]; exact hr.blk id x hx
  · rw [St.get_push] at hx
    split at hx
    · rename_i h
      rw [← hr.n] at h; subst h; cases hx
      refine ⟨fun i a ha => ?_, fun _ => ⟨c, t, by rw [Fi.push_new]; exact hb, by rw [Fi.push_new], by rw [Fi.push_new]; simp⟩⟩
      rw [List.getElem?_map] at ha
      cases hq : c.toList[i]? with
      | none => rw [hq] at ha; cases ha
      | some v =>
        rw [hq] at ha
        simp only [Option.map_some, Option.some.injEq] at ha
        subst ha
        refine ⟨v, ?_, .lit v⟩
        rw [Fi.push_new]
        unfold World.cell?
        simp only [hb, Nat.zero_add]
        rw [← Array.getElem?_toList]; exact hq
    · exact (hr.obj id x hx).same (φ.push_ext _) (hold id x hx).1 rfl
  · rw [St.get_push] at hi hj
    split at hi
    · rename_i h1
      rw [← hr.n] at h1; subst h1
      split at hj
      · rename_i h2; rw [← hr.n] at h2; exact absurd h2 hij
      · intro hbb
        rw [Fi.push_new, (hold j oj hj).2] at hbb
        exact absurd hbb.symm (hap j oj hj (hown j oj hj))
    · split at hj
      · rename_i h2
        rw [← hr.n] at h2; subst h2
        intro hbb
        rw [Fi.push_new, (hold i oi hi).2] at hbb
        exact absurd hbb (hap i oi hi ho)
      · rw [(hold i oi hi).2, (hold j oj hj).2]
        exact hr.sep i j oi oj hi hj hij ho
theorem ready_of {j : Nat} {o : Oper} {listed : Array Bool} (ho : ops[j]? = some o) (hu : listed.getD j true = false) (he : ∀ e ∈ edgesOf o, listed.getD e false = true) : j ∈ Region.ready .any ops listed :=
  mem_ready.2 ⟨hu, o, ho, fun e hem hb => he e.on (mem_edges.2 ⟨e, hem, hb, rfl⟩)⟩
theorem lits_inv {φ : Fi} : ∀ {l us : List Value}, VRL φ (l.map .lit) us → us = l
  | [], _, h => by cases h; rfl
  | v :: l, _, h => by
    cases h with
    | cons h t => rw [h.lit_inv, lits_inv t]
theorem Rel.alloc {φ : Fi} {st : St} {w : World} (hr : Rel φ st w) (o : Obj) : Rel φ st (w.alloc o) :=
  ⟨hr.n, hr.lt, fun id x hx => by rw [alloc_size]; have := hr.blk id x hx; omega, fun id x hx => (hr.obj id x hx).same (Ext.refl _) (by rw [hr.n]; exact hr.lt id x hx) (alloc_heap_old w o _ (hr.blk id x hx)), hr.sep⟩
theorem countP_lt' {p q : Nat → Bool} {x : Nat} (hp : p x = false) (hq : q x = true) : ∀ {l : List Nat}, x ∈ l → (∀ k ∈ l, p k = true → q k = true) → l.countP p < l.countP q
  | y :: l, hx, hle => by
    have hm : l.countP p ≤ l.countP q := List.countP_mono_left fun k hk => hle k (List.mem_cons_of_mem _ hk)
    rw [List.countP_cons, List.countP_cons]
    rcases List.mem_cons.1 hx with rfl | hx
    · rw [hp, hq]; simp; omega
    · have := countP_lt' hp hq hx fun k hk => hle k (List.mem_cons_of_mem _ hk)
      have h1 := hle y List.mem_cons_self
      cases hpy : p y with
      | true => rw [h1 hpy]; simp; omega
      | false => cases q y <;> simp <;> omega
def cntU (n : Nat) (l : Array Bool) : Nat := (List.range n).countP fun k => !(l.getD k true)
theorem cntU_set {n j : Nat} {l : Array Bool} (hl : l.size = n) (hj : j < n) (hu : l.getD j true = false) : cntU n (l.setIfInBounds j true) < cntU n l := by
  unfold cntU
  have hle : ∀ k ∈ List.range n, (!((l.setIfInBounds j true).getD k true)) = true → (!(l.getD k true)) = true := fun k hk h => by
    by_cases hjk : j = k
    · subst hjk
      rw [hu]; rfl
    · rwa [getD_set_ne true hjk] at h
  exact countP_lt' (x := j) (by simp [hl, hj]) (by simp [hu]) (List.mem_range.2 hj) hle
theorem cntU_zero {n : Nat} {l : Array Bool} (h : cntU n l = 0) : ∀ k, k < n → l.getD k true = true := fun k hk => by
  have := List.countP_eq_zero.1 h k (List.mem_range.2 hk)
  simpa using this
theorem ready_none {M : List Nat} (hM : Tidy ops M) {lr : Array Bool} (hs : lr.size = ops.size) (h : Region.ready .any ops lr = []) : ∀ k, k < ops.size → lr.getD k true = true := by
  intro k
  induction k using Nat.strongRecOn with
  | _ k ih =>
    intro hk
    cases hb : lr.getD k true with
    | true => rfl
    | false =>
      exfalso
      have hko : ops[k]? = some ops[k] := Array.getElem?_eq_getElem hk
      have : k ∈ Region.ready .any ops lr := ready_of hko hb fun e he => by
        have hlt := hM.back k _ hko e he
        rw [← getD_tf (by omega)]
        exact ih e hlt (by omega)
      rw [h] at this; cases this
theorem exists_min {p : Nat → Prop} (h : ∃ k, p k) : ∃ k, p k ∧ ∀ j, p j → k ≤ j := by
  obtain ⟨k, hk⟩ := h
  induction k using Nat.strongRecOn with
  | _ k ih =>
    by_cases hm : ∃ j, j < k ∧ p j
    · obtain ⟨j, hj, hp⟩ := hm
      exact ih j hj hp
    · exact ⟨k, hk, fun j hj => Nat.le_of_not_lt fun hlt => hm ⟨j, hlt, hj⟩⟩
theorem AnyA.sound {M : List Nat} (hM : Tidy ops M) (hT : TOk P T) {dl : Nat → Option (List Value)} {lt : Nat → Bool} (hD : DlOk T ops dl) (hS : DlSep ops M dl lt) {rd : Option Nat} {K : Fm → St → Prop} {φ0 : Fi} {st0 : St} {w0 : World} {Q : Exit → Act → World → Prop} {n : Nat}
    (hrd : ∀ id, rd = some id → id < φ0.n) (hQ : ∀ a' w', Lift φ0 st0 w0 (fun _ f' st' => K f' st') .normal a' w' → Q .normal a' w') :
    ∀ (m fr : Nat) (G : List Gh) (pend : List (Nat × AV)) (listed lr : Array Bool) (f : Fm) (st : St) (φ : Fi) (w : World) (a : Act), m = 2 * fr + G.length → cntU ops.size lr ≤ fr → AnyA P T ops M rd dl lt K (fr + G.length) pend listed f st → GAll ops dl φ st w0 w listed lr G →
      Ext φ0 φ → Rel φ st w → ActR φ f a → Fr φ0 st0 w0 φ st w → wpAnyIn (FW (rdB φ0 rd)) n P .any ops Q fr lr (putsG a G) w := by
  intro m
  induction m using Nat.strongRecOn with
  | _ m ih =>
  intro fr G pend listed lr f st φ w a hm hcnt H hG hext hrel hact hfr
  have gdl : ∀ g ∈ G, (dl g.i).isSome = true := fun g hg => by rw [(hG.each g hg).cells]; rfl
  have glt : ∀ g ∈ G, g.i < ops.size := fun g hg => by obtain ⟨o, ho, _⟩ := (hG.each g hg).op; exact (Array.getElem?_eq_some_iff.1 ho).1
  have gready : ∀ g ∈ G, g.i ∈ Region.ready .any ops listed := fun g hg => by
    obtain ⟨o, e, ti, ho, _, _, hed, _⟩ := hD g.i _ (hG.each g hg).cells
    exact ready_of ho (hG.each g hg).un fun e he => by rw [hed] at he; cases he
  by_cases hmat : LeftC ops dl lt listed ∧ ∃ g ∈ G, ∀ k, (dl k).isSome = true → listed.getD k true = false → g.i ≤ k
  ·
    obtain ⟨hC, g, hgG, hgmin⟩ := hmat
    obtain ⟨G1, G2, hGe⟩ := List.append_of_mem hgG
    have hg1 := hG.each g hgG
    have hlen : G.length = (G1 ++ G2).length + 1 := by rw [hGe]; simp; omega
    have H' : AnyA P T ops M rd dl lt K ((fr + (G1 ++ G2).length) + 1) pend listed f st := by
      have : fr + G.length = (fr + (G1 ++ G2).length) + 1 := by omega
      rw [← this]; exact H
    obtain ⟨i, cs, q1, q2, q3, hown, o, ho, H2⟩ := H'.2.2.2 hC ⟨g.i, gdl g hgG, hg1.un⟩
    have hgi : g.i = i := Nat.le_antisymm (hgmin i (by rw [q1]; rfl) q2) (q3 g.i (gdl g hgG) hg1.un)
    have hcs : cs = g.c.toList := by
      have := hg1.cells
      rw [hgi, q1] at this
      exact Option.some.inj this
    subst hcs
    obtain ⟨o', ho', hod⟩ := hg1.op
    rw [hgi, ho] at ho'
    cases ho'
    rw [hod] at H2
    have hsub : ∀ x ∈ G1 ++ G2, x ∈ G := fun x hx => by
      rw [hGe]
      rcases List.mem_append.1 hx with h | h
      · exact List.mem_append_left _ h
      · exact List.mem_append_right _ (List.mem_cons_of_mem _ h)
    have hids := hG.ids
    have hbls := hG.blocks
    rw [hGe, List.map_append, List.map_cons] at hids hbls
    have hidne : ∀ x ∈ G1 ++ G2, x.i ≠ g.i := fun x hx e => by
      rw [List.nodup_append] at hids
      obtain ⟨h1, h2, h3⟩ := hids
      rcases List.mem_append.1 hx with h | h
      · exact h3 x.i (List.mem_map_of_mem h) g.i List.mem_cons_self e
      · exact (List.nodup_cons.1 h2).1 (by rw [← e]; exact List.mem_map_of_mem h)
    have hbne : ∀ x ∈ G1 ++ G2, x.b ≠ g.b := fun x hx e => by
      rw [List.nodup_append] at hbls
      obtain ⟨h1, h2, h3⟩ := hbls
      rcases List.mem_append.1 hx with h | h
      · exact h3 x.b (List.mem_map_of_mem h) g.b List.mem_cons_self e
      · exact (List.nodup_cons.1 h2).1 (by rw [← e]; exact List.mem_map_of_mem h)
    have hputs : putsG a G = putsG (a.put g.d g.v) (G1 ++ G2) := by
      rw [hGe]
      refine putsG_mid a fun x hx d hd => ?_
      have hxG := hsub x (List.mem_append_right _ hx)
      obtain ⟨ox, hox, hxd⟩ := (hG.each x hxG).op
      have hne : x.i ≠ g.i := hidne x (List.mem_append_right _ hx)
      have := (hM.see x.i g.i ox o hox (by rw [hgi]; exact ho) hne d (by rw [hxd]; exact hd)).2
      rwa [hod] at this
    rw [hputs]
    have hn' : φ.n = st.n := hrel.n
    have hrel' := hrel.ghost hg1.heap hown hg1.apart
    have hex := φ.push_ext ⟨g.b, 0, g.c.size⟩
    have hold : ∀ id x, st.h.get id = some x → (φ.push ⟨g.b, 0, g.c.size⟩).f id = φ.f id := fun id x hx => hex.f id (by rw [hn']; exact hrel.lt id x hx)
    have hv : VR (φ.push ⟨g.b, 0, g.c.size⟩) (.ptr st.n 0) g.v := by
      have := VR.ptr (φ := φ.push ⟨g.b, 0, g.c.size⟩) φ.n 0 (by simp [Fi.push])
      rw [Fi.push_new] at this
      rw [← hn']; exact this
    refine ih (2 * fr + (G1 ++ G2).length) (by omega) fr (G1 ++ G2) _ _ lr _ _ (φ.push ⟨g.b, 0, g.c.size⟩) w (a.put g.d g.v) rfl hcnt H2 ⟨fun x hx => ?_, ?_, ?_, by simp [hG.sl], hG.sr, fun k hk => ?_, hG.cl, hG.cl2.set (by rw [← hgi]; exact gready g hgG)⟩ (hext.trans hex) hrel' ((hact.mono hex).put g.d hv)
      ⟨hfr.os, hfr.tape, hfr.output, hfr.size, hfr.block, fun k ⟨id, x, hx, hxo, hb⟩ => ?_⟩
    · have h1 := hG.each x (hsub x hx)
      refine ⟨h1.op, h1.cells, ?_, h1.heap, h1.late, fun id y hy hyo => ?_⟩
      · rw [getD_set_ne true (by rw [← hgi]; exact Ne.symm (hidne x hx))]; exact h1.un
      · rw [St.get_push] at hy
        split at hy
        · rename_i he
          rw [← hn'] at he; subst he
          rw [Fi.push_new]; exact (Ne.symm (hbne x hx))
        · rw [hold id y hy]; exact h1.apart id y hy hyo
    · rw [List.map_append]
      rw [List.nodup_append] at hids ⊢
      obtain ⟨h1, h2, h3⟩ := hids
      exact ⟨h1, (List.nodup_cons.1 h2).2, fun p hp q hq => h3 p hp q (List.mem_cons_of_mem _ hq)⟩
    · rw [List.map_append]
      rw [List.nodup_append] at hbls ⊢
      obtain ⟨h1, h2, h3⟩ := hbls
      exact ⟨h1, (List.nodup_cons.1 h2).2, fun p hp q hq => h3 p hp q (List.mem_cons_of_mem _ hq)⟩
    · rw [hG.bits k hk]
      by_cases hik : i = k
      · subst hik
        have : (listed.setIfInBounds i true).getD i true = true := by simp [hG.sl, hk]
        exact ⟨fun _ => .inl this, fun _ => .inr ⟨g, hgG, hgi⟩⟩
      · rw [getD_set_ne true hik]
        refine or_congr Iff.rfl ⟨fun ⟨x, hx, hxk⟩ => ⟨x, ?_, hxk⟩, fun ⟨x, hx, hxk⟩ => ⟨x, hsub x hx, hxk⟩⟩
        rw [hGe] at hx
        rcases List.mem_append.1 hx with h | h
        · exact List.mem_append_left _ h
        · rcases List.mem_cons.1 h with rfl | h
          · exact absurd (hgi.symm.trans hxk) hik
          · exact List.mem_append_right _ h
    · rw [St.get_push] at hx
      split at hx
      · rename_i he
        rw [← hn'] at he; subst he
        rw [Fi.push_new] at hb
        right; rw [← hb]; exact hg1.late
      · rw [hold id x hx] at hb
        exact hfr.own k ⟨id, x, hx, hxo, hb⟩
  have hend : (∀ k, k < ops.size → lr.getD k true = true) → G = [] ∧ Region.ready .any ops listed = [] := fun hal => by
    have hun : ∀ j ∈ Region.ready .any ops listed, ∃ g ∈ G, g.i = j := fun j hj => by
      obtain ⟨o, ho, hu, _⟩ := ready_edges hj
      rcases (hG.bits j (Array.getElem?_eq_some_iff.1 ho).1).1 (hal j (Array.getElem?_eq_some_iff.1 ho).1) with h | h
      · rw [h] at hu; cases hu
      · exact h
    have hnone : ¬ ∃ k, (dl k).isSome = true ∧ listed.getD k true = false := fun hex => by
      obtain ⟨k, ⟨hk1, hk2⟩, hkm⟩ := exists_min hex
      refine hmat ⟨fun u ou hou huu => ?_, ?_⟩
      · rcases (hG.bits u (Array.getElem?_eq_some_iff.1 hou).1).1 (hal u (Array.getElem?_eq_some_iff.1 hou).1) with h | ⟨g, hg, h⟩
        · rw [h] at huu; cases huu
        · left; rw [← h]; exact gdl g hg
      · obtain ⟨cs, hcs⟩ := Option.isSome_iff_exists.1 hk1
        obtain ⟨o, _, _, ho, _⟩ := hD k cs hcs
        have hks := (Array.getElem?_eq_some_iff.1 ho).1
        rcases (hG.bits k hks).1 (hal k hks) with h | ⟨g, hg, h⟩
        · rw [h] at hk2; cases hk2
        · exact ⟨g, hg, fun j hj1 hj2 => by rw [h]; exact hkm j ⟨hj1, hj2⟩⟩
    have hGn : G = [] := by
      cases hGe : G with
      | nil => rfl
      | cons g G' =>
        exact absurd ⟨g.i, gdl g (by rw [hGe]; exact List.mem_cons_self), (hG.each g (by rw [hGe]; exact List.mem_cons_self)).un⟩ hnone
    refine ⟨hGn, ?_⟩
    cases hr : Region.ready .any ops listed with
    | nil => rfl
    | cons i is =>
      obtain ⟨g, hg, _⟩ := hun i (by rw [hr]; exact List.mem_cons_self)
      rw [hGn] at hg; cases hg
  have hfin : (∀ k, k < ops.size → lr.getD k true = true) → Q .normal (putsG a G) w := fun hal => by
    obtain ⟨hGe, hr⟩ := hend hal
    subst hGe
    have hk : K f st := by
      cases fr with
      | zero => exact H.2.2
      | succ fr => exact H.2.1 hr
    exact hQ _ _ ⟨f, st, φ, hk, hext, hrel, hact, hfr⟩
  cases fr with
  | zero =>
    have hal := cntU_zero (Nat.le_zero.1 hcnt)
    refine ⟨?_, hfin hal⟩
    cases hr : Region.ready .any ops lr with
    | nil => rfl
    | cons j js =>
      obtain ⟨o, ho, hu, _⟩ := ready_edges (ops := ops) (listed := lr) (j := j) (by rw [hr]; exact List.mem_cons_self)
      rw [hal j (Array.getElem?_eq_some_iff.1 ho).1] at hu; cases hu
  | succ fr =>
    refine ⟨fun hr => hfin (ready_none hM hG.sr hr), fun j hj => ?_⟩
    obtain ⟨oj, hoj, hju, hje⟩ := ready_edges hj
    have hjs : j < ops.size := (Array.getElem?_eq_some_iff.1 hoj).1
    have hjl : listed.getD j true = false := by
      cases hb : listed.getD j true with
      | false => rfl
      | true => rw [(hG.bits j hjs).2 (.inl hb)] at hju; cases hju
    have hjg : ∀ g ∈ G, g.i ≠ j := fun g hg e => by rw [(hG.bits j hjs).2 (.inr ⟨g, hg, e⟩)] at hju; cases hju
    have hcnt' : cntU ops.size (lr.setIfInBounds j true) ≤ fr := by have := cntU_set hG.sr hjs hju; omega
    have hp := hM.plain j oj hoj
    have hbits : ∀ k, k < ops.size → ((lr.setIfInBounds j true).getD k true = true ↔ k = j ∨ lr.getD k true = true) := fun k hk => by
      by_cases hjk : j = k
      · subst hjk
        exact ⟨fun _ => .inl rfl, fun _ => by simp [hG.sr, hk]⟩
      · rw [getD_set_ne true hjk]
        exact ⟨.inr, fun h => h.elim (fun h => absurd h.symm hjk) fun h => h⟩
    cases hdj : dl j with
    | some cs =>
      obtain ⟨oj', e, ti, hoj', hop, hgu, hed, hti, hcs⟩ := hD j cs hdj
      rw [hoj] at hoj'; cases hoj'
      have hev : evF T φ.n (Operand.av f.ts) oj = some (.ptr φ.n 0, ti.zero.map .lit) := by simp only [evF, hop, hti]
      obtain ⟨c, t, h4, h5⟩ := evF_ok (P := P) hT (opR_of hact.ts) hev
      obtain ⟨u, h6, h7⟩ := h5 w
      have hce : c.toList = ti.zero := lits_inv h4
      have hu : u = .pointer (some ⟨w.heap.size, 0, none⟩) := by
        have := (h7.ptr_inv).1
        rwa [Fi.push_new] at this
      obtain ⟨x1, x2, x3⟩ := putsG_exec (P := P) (ops := ops) oj hp (G := G) a fun g hg d hd hm => by
        obtain ⟨og, hog, hgd⟩ := (hG.each g hg).op
        rcases (hM.see g.i j og oj hog hoj (hjg g hg) d (by rw [hgd]; exact hd)).1 hm with h | h
        · obtain ⟨e', he', _⟩ := hM.anc j oj g.i hoj (glt g hg) h
          rw [hed] at he'; cases he'
        · obtain ⟨og2, _, _, hog2, _, _, hed2, _⟩ := hD g.i _ (hG.each g hg).cells
          rw [hog] at hog2; cases hog2
          obtain ⟨e', he', _⟩ := hM.anc g.i og j hog hjs h
          rw [hed2] at he'; cases he'
      unfold wpOpIn
      simp only [hoj]
      rw [if_pos (by unfold Region.wanted; rw [hgu])]
      unfold Oper.wpIn
      rw [semAt_eq hp.2, ← x2, h6]
      refine ⟨fun _ _ => trivial, ?_⟩
      have hrel' := hrel.alloc (.cells c t)
      have hn1 := ih (2 * fr + (G.length + 1)) (by omega) fr (⟨j, w.heap.size, c, t, oj.dst⟩ :: G) pend listed (lr.setIfInBounds j true) f st φ (w.alloc (.cells c t)) a rfl hcnt'
        (by have e1 : fr + (⟨j, w.heap.size, c, t, oj.dst⟩ :: G : List Gh).length = fr + 1 + G.length := by simp; omega
            rw [e1]; exact H)
        ⟨fun g hg => ?_, ?_, ?_, hG.sl, by simp [hG.sr], fun k hk => ?_, hG.cl.set hj, hG.cl2⟩ hext hrel' hact
        ⟨hfr.os, hfr.tape, hfr.output, by rw [alloc_size]; have := hfr.size; omega, fun k hk ho => (alloc_heap_old w _ k (by have := hfr.size; omega)).trans (hfr.block k hk ho), hfr.own⟩
      · have e2 : putsG a (⟨j, w.heap.size, c, t, oj.dst⟩ :: G) = (putsG a G).put oj.dst u := by rw [hu]; rfl
        rw [e2] at hn1
        exact hn1
      · rcases List.mem_cons.1 hg with rfl | hg
        · exact ⟨⟨oj, hoj, rfl⟩, by rw [hdj, hcs, hce], hjl, alloc_heap_new' w _, hfr.size, fun id x hx _ => Nat.ne_of_lt (hrel.blk id x hx)⟩
        · have h1 := hG.each g hg
          exact ⟨h1.op, h1.cells, h1.un, by rw [alloc_heap_old w _ _ (Array.getElem?_eq_some_iff.1 h1.heap).1]; exact h1.heap, h1.late, h1.apart⟩
      · rw [List.map_cons, List.nodup_cons]
        refine ⟨fun hm => ?_, hG.ids⟩
        obtain ⟨g, hg, he⟩ := List.mem_map.1 hm
        exact hjg g hg he
      · rw [List.map_cons, List.nodup_cons]
        refine ⟨fun hm => ?_, hG.blocks⟩
        obtain ⟨g, hg, he⟩ := List.mem_map.1 hm
        have := (Array.getElem?_eq_some_iff.1 (hG.each g hg).heap).1
        simp only at he
        omega
      · rw [hbits k hk, hG.bits k hk]
        constructor
        · rintro (rfl | h | ⟨g, hg, h⟩)
          · exact .inr ⟨_, List.mem_cons_self, rfl⟩
          · exact .inl h
          · exact .inr ⟨g, List.mem_cons_of_mem _ hg, h⟩
        · rintro (h | ⟨g, hg, h⟩)
          · exact .inr (.inl h)
          · rcases List.mem_cons.1 hg with rfl | hg
            · exact .inl h.symm
            · exact .inr (.inr ⟨g, hg, h⟩)
    | none =>
      have hjr : j ∈ Region.ready .any ops listed := ready_of hoj hjl fun e he => by
        cases hb : listed.getD e false with
        | true => rfl
        | false =>
          exfalso
          have hej := hM.back j oj hoj e he
          have hes : e < ops.size := by omega
          have hbt : listed.getD e true = false := by rw [getD_tf (by rw [hG.sl]; exact hes)]; exact hb
          have hlre : lr.getD e true = true := by rw [getD_tf (by rw [hG.sr]; exact hes)]; exact hje e he
          obtain ⟨g, hg, hge⟩ : ∃ g ∈ G, g.i = e := by
            rcases (hG.bits e hes).1 hlre with h | h
            · rw [h] at hbt; cases hbt
            · exact h
          have hde : (dl e).isSome = true := by rw [← hge]; exact gdl g hg
          have ghost : ∀ u, u < ops.size → listed.getD u true = false → lr.getD u false = true → ∃ x ∈ G, x.i = u := fun u hus huu h1 => by
            rcases (hG.bits u hus).1 (by rw [getD_tf (by rw [hG.sr]; exact hus)]; exact h1) with h2 | h2
            · rw [h2] at huu; cases huu
            · exact h2
          refine hmat ⟨fun u ou hou huu => ?_, ?_⟩
          · have hus := (Array.getElem?_eq_some_iff.1 hou).1
            rcases hS.2 e j u oj ou hde hoj hou he with rfl | h | h | h | h
            · rw [hoj] at hou; cases hou
              exact .inr (.inr ⟨e, hde, hbt, he⟩)
            · obtain ⟨x, hx, hxu⟩ := ghost u hus huu (Closed.anc hM hG.cl hus j oj hoj hje h)
              left; rw [← hxu]; exact gdl x hx
            · exact .inr (.inr ⟨e, hde, hbt, h⟩)
            · exact .inl h.1
            · exact .inr (.inl h)
          · obtain ⟨k, ⟨hk1, hk2⟩, hkm⟩ := exists_min (p := fun k => (dl k).isSome = true ∧ listed.getD k true = false) ⟨e, hde, hbt⟩
            have hke : k ≤ e := hkm e ⟨hde, hbt⟩
            obtain ⟨cs, hcs⟩ := Option.isSome_iff_exists.1 hk1
            obtain ⟨ok, _, _, hok, _, _, hed, _⟩ := hD k cs hcs
            have hks := (Array.getElem?_eq_some_iff.1 hok).1
            have hkg : ∃ x ∈ G, x.i = k := by
              rcases hS.2 e j k oj ok hde hoj hok he with rfl | h | h | h | h
              · rw [hdj] at hcs; cases hcs
              · exact ghost k hks hk2 (Closed.anc hM hG.cl hks j oj hoj hje h)
              · rw [hed] at h; cases h
              · have : k = e := by omega
                subst this; exact ⟨g, hg, hge⟩
              · rw [hS.1 k hk1] at h; cases h
            obtain ⟨x, hx, hxk⟩ := hkg
            exact ⟨x, hx, fun j' h1 h2 => by rw [hxk]; exact hkm j' ⟨h1, h2⟩⟩
      have H' : AnyA P T ops M rd dl lt K ((fr + G.length) + 1) pend listed f st := by
        have : fr + 1 + G.length = (fr + G.length) + 1 := by omega
        rw [← this]; exact H
      obtain ⟨o, ho, h4⟩ := H'.2.2.1 j hjr hdj
      rw [hoj] at ho; cases ho
      have hsee1 : ∀ g ∈ G, ∀ d, g.d = some d → d ∉ oj.looksAt ops := fun g hg d hd hm => by
        obtain ⟨og, hog, hgd⟩ := (hG.each g hg).op
        rcases (hM.see g.i j og oj hog hoj (hjg g hg) d (by rw [hgd]; exact hd)).1 hm with h | h
        · obtain ⟨oj2, hoj2, _, hle⟩ := ready_edges hjr
          rw [hoj] at hoj2; cases hoj2
          have h1 := Closed.anc hM hG.cl2 (glt g hg) j oj hoj hle h
          have h2 := listed_lt (hG.each g hg).un
          rw [h1] at h2; cases h2
        · obtain ⟨og2, _, _, hog2, _, _, hed2, _⟩ := hD g.i _ (hG.each g hg).cells
          rw [hog] at hog2; cases hog2
          obtain ⟨e', he', _⟩ := hM.anc g.i og j hog hjs h
          rw [hed2] at he'; cases he'
      have hsee2 : ∀ g ∈ G, ∀ d, g.d = some d → oj.dst ≠ some d := fun g hg d hd => by
        obtain ⟨og, hog, hgd⟩ := (hG.each g hg).op
        exact (hM.see g.i j og oj hog hoj (hjg g hg) d (by rw [hgd]; exact hd)).2
      obtain ⟨x1, x2, x3⟩ := putsG_exec (P := P) (ops := ops) oj hp (G := G) a hsee1
      have hrd' : ∀ id, rd = some id → id < φ.n := fun id hi => Nat.lt_of_lt_of_le (hrd id hi) hext.n
      have h5 := h4 φ w a n (fun e a' w' => e = .normal ∧ wpAnyIn (FW (rdB φ0 rd)) n P .any ops Q fr (lr.setIfInBounds j true) (putsG a' G) w') hrd' hrel hact (fun a' w' hl => ⟨rfl, by
        obtain ⟨f', st', φ', ⟨v, hf, hk⟩, he, hrel', hact', hfr'⟩ := hl
        refine ih (2 * fr + G.length) (by omega) fr G _ (listed.setIfInBounds j true) (lr.setIfInBounds j true) f' st' φ' w' a' rfl hcnt' hk ⟨fun g hg => ?_, hG.ids, hG.blocks, by simp [hG.sl], by simp [hG.sr], fun k hk => ?_, hG.cl.set hj, hG.cl2.set hjr⟩ (hext.trans he) hrel' hact' (hfr.trans hfr')
        · have h1 := hG.each g hg
          have hno : ¬ Owns φ st g.b := fun ⟨id, x, hx, hxo, hb⟩ => h1.apart id x hx hxo hb
          have hbs := (Array.getElem?_eq_some_iff.1 h1.heap).1
          refine ⟨h1.op, h1.cells, by rw [getD_set_ne true (Ne.symm (hjg g hg))]; exact h1.un, by rw [hfr'.block g.b hbs hno]; exact h1.heap, h1.late, fun id x hx hxo hb => ?_⟩
          rcases hfr'.own g.b ⟨id, x, hx, hxo, hb⟩ with h2 | h2
          · exact hno h2
          · omega
        · rw [hbits k hk, hG.bits k hk]
          by_cases hjk : j = k
          · subst hjk
            have : (listed.setIfInBounds j true).getD j true = true := by simp [hG.sl, hk]
            exact ⟨fun _ => .inl this, fun _ => .inl rfl⟩
          · rw [getD_set_ne true hjk]
            exact ⟨fun h => h.elim (fun h => absurd h.symm hjk) fun h => h, .inr⟩⟩)
      rw [wpOpsIn_cons, rdB_ext hext hrd] at h5
      refine wpOpIn_congr hoj hp.2 x1 x2 x3 (fun cv w' hk => ?_) (fun d w' hk => ?_) (fun e a w hne hk => absurd hk.1 hne) (fun hl => by obtain ⟨a, w, hn, _⟩ := hl; cases hn) h5
      · rw [putsG_comm a hsee2]; exact hk.2
      · rw [← putsG_defers, putsG_comm _ hsee2]; exact hk.2
end
end Go.Ev
