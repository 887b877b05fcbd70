/-
  THE EVALUATOR: regions, code, calls, rounds; and that it is right. Own work of the verifier of watercress.
-/
import Derived.Test.YtmoimpajiajacaaEvJ
namespace Go.Ev

/-! ### What nobody asks for any more -/
def St.keep (st : St) (p : Nat → Bool) : St := ⟨st.h.filter fun x => p x.1, st.n⟩

theorem Hp.get_filter {p : Nat → Bool} : ∀ {h : Hp} {id : Nat} {o : AObj}, Hp.get (h.filter fun x => p x.1) id = some o → h.get id = some o
  | [], _, _, h => h
  | (i, x) :: r, id, o, h => by
    rw [List.filter_cons] at h
    by_cases hi : i = id
    · subst hi
      simp only [Hp.get, if_true]
      split at h
      · simpa only [Hp.get, if_true] using h
      · rename_i hp
        exfalso
        have : ∀ {r : Hp}, Hp.get (r.filter fun x => p x.1) i = none := fun {r} => by
          induction r with
          | nil => rfl
          | cons y r ih =>
            rw [List.filter_cons]
            split
            · rename_i hy
              have : ¬ y.1 = i := fun e => hp (by rw [← e]; exact hy)
              simp only [Hp.get, this, if_false, ih]
            · exact ih
        rw [this] at h; cases h
    · simp only [Hp.get, hi, if_false]
      refine Hp.get_filter (p := p) ?_
      split at h
      · simpa only [Hp.get, hi, if_false] using h
      · exact h

theorem Rel.keep {φ : Fi} {st : St} {w : World} (hr : Rel φ st w) (p : Nat → Bool) : Rel φ (st.keep p) w :=
  ⟨hr.n, fun id o h => hr.lt id o (Hp.get_filter h), fun id o h => hr.blk id o (Hp.get_filter h), fun id o h => hr.obj id o (Hp.get_filter h),
   fun i j oi oj hi hj => hr.sep i j oi oj (Hp.get_filter hi) (Hp.get_filter hj)⟩

theorem Fr.keep {φ φ' : Fi} {st st' : St} {w w' : World} (h : Fr φ st w φ' st' w') (p : Nat → Bool) : Fr φ st w φ' (st'.keep p) w' :=
  ⟨h.os, h.tape, h.output, h.size, h.block, fun k ⟨id, o, h1, h2⟩ => h.own k ⟨id, o, Hp.get_filter h1, h2⟩⟩

theorem CallW.keep {P : Program} {g : FuncId} {args : List AV} {st : St} {k : AV → St → Prop} (p : AV → St → Nat → Bool) (h : CallW P g args st (fun v st' => k v (st'.keep (p v st')))) : CallW P g args st k :=
  fun φ w cargs n h1 h2 => (h φ w cargs n h1 h2).mono fun _ _ ⟨v, cv, st', φ', h3, h4, h5, h6, h7, h8⟩ => ⟨v, cv, st'.keep (p v st'), φ', h3, h4, h5, h6, h7.keep _, h8.keep _⟩

mutual
def avLt (n : Nat) : AV → Bool
  | .lit _ => true
  | .ptr i _ | .sl i _ _ _ _ | .mp i | .yld i => Nat.blt i n
  | .fn _ a b => avsLt n a && avsLt n b
  | .agg a | .tup a => avsLt n a
def avsLt (n : Nat) : List AV → Bool
  | [] => true
  | a :: r => avLt n a && avsLt n r
end
def objLt (n : Nat) : AObj → Bool
  | .cells _ _ cs => avsLt n cs
  | .map es _ => es.all fun x => avLt n x.1 && avLt n x.2.1
  | .iter mid _ _ _ => Nat.blt mid n
  | _ => true
def gcP (n0 : Nat) (v : AV) (st : St) (i : Nat) : Bool :=
  if st.n == n0 then true
  else if avLt n0 v && st.h.all (fun x => Nat.ble n0 x.1 || objLt n0 x.2) then Nat.blt i n0 else true

/-- The same, with what it asks asked once. -/
def gcSt (n0 : Nat) (v : AV) (st : St) : St :=
  if st.n == n0 then st
  else if avLt n0 v && st.h.all (fun x => Nat.ble n0 x.1 || objLt n0 x.2) then st.keep fun i => Nat.blt i n0 else st

theorem filter_true {α : Type} : ∀ l : List α, (l.filter fun _ => true) = l
  | [] => rfl
  | a :: r => by rw [List.filter_cons]; simp only [if_true, filter_true r]

theorem gcSt_eq (n0 : Nat) (v : AV) (st : St) : gcSt n0 v st = st.keep (gcP n0 v st) := by
  unfold gcSt gcP St.keep
  split
  · simp only [filter_true]
  · split
    · rfl
    · simp only [filter_true]

/-! ### Regions -/
section
variable (P : Program) (T : Ti) (G : FuncId → Option Func) (C : FuncId → List AV → St → Option (List (AV × St))) (X : St → (Operand → AV) → Oper → Option (List (AV × St)))

abbrev CallE := AV → List AV → St → Option (List (AV × St))

def CallOk (call : CallE) : Prop := ∀ c args st outs, call c args st = some outs → ApplyW P c args st (fun v st' => (v, st') ∈ outs)

/-- Other operations: they are as they are said to be. -/
def XOk : Prop := ∀ (rd : Option Nat) (ops : Array Oper) (i : Nat) (f : Fm) (st : St) (o : Oper) (outs : List (AV × St)), ops[i]? = some o → Region.wanted o (yA ops f.ts) = true → X st (Operand.av f.ts) o = some outs →
  OpsW P rd ops [i] (fun f' st' => ∃ v, f' = f.put o.dst v ∧ (v, st') ∈ outs) f st

def heavy (call : CallE) (st : St) (ρ : Operand → AV) (o : Oper) : Option (List (AV × St)) :=
  match o.op with
  | .alloc _ | .box _ _ | .buildSlice _ _ _ | .makeSlice _ _ _ => (evF T st.n ρ o).map fun x => [(x.1, st.push (.cells none false x.2))]
  | .store _ _ _ => match storeO T st ρ o with
    | some s => some [(undA, s)]
    | none => X st ρ o
  | .call c => match c.callee with
    | .builtin .append => (appendO T st ρ o).map fun x => [x]
    | .value f => call (ρ f) (c.args.toList.map ρ) st
    | _ => X st ρ o
  | _ => X st ρ o

variable {P T G C X}

theorem heavy_ok (hT : TOk P T) (hX : XOk P X) {call : CallE} (hc : CallOk P call) {rd : Option Nat} {ops : Array Oper} {i : Nat} {f : Fm} {st : St} {o : Oper} {outs : List (AV × St)} (ho : ops[i]? = some o) (hw : Region.wanted o (yA ops f.ts) = true)
    (h : heavy T X call st (Operand.av f.ts) o = some outs) : OpsW P rd ops [i] (fun f' st' => ∃ v, f' = f.put o.dst v ∧ (v, st') ∈ outs) f st := by
  have hF : ∀ {outs}, (evF T st.n (Operand.av f.ts) o).map (fun x => [(x.1, st.push (.cells none false x.2))]) = some outs → OpsW P rd ops [i] (fun f' st' => ∃ v, f' = f.put o.dst v ∧ (v, st') ∈ outs) f st := fun {outs} h => by
    cases he : evF T st.n (Operand.av f.ts) o with
    | none => rw [he] at h; cases h
    | some x =>
      rw [he] at h
      simp only [Option.map_some, Option.some.injEq] at h
      subst h
      exact OpsW.fresh hT (r := x.1) (cs := x.2) ho hw he (.nil ⟨x.1, rfl, by simp⟩)
  unfold heavy at h
  split at h
  · exact hF h
  · exact hF h
  · exact hF h
  · exact hF h
  · cases he : storeO T st (Operand.av f.ts) o with
    | none => rw [he] at h; exact hX rd ops i f st o outs ho hw h
    | some x =>
      rw [he] at h
      simp only [Option.some.injEq] at h
      subst h
      exact OpsW.store hT ho hw he (.nil ⟨undA, rfl, by simp⟩)
  · rename_i c hx
    split at h
    · cases he : appendO T st (Operand.av f.ts) o with
      | none => rw [he] at h; cases h
      | some x =>
        rw [he] at h
        simp only [Option.map_some, Option.some.injEq] at h
        subst h
        exact OpsW.append hT (r := x.1) (st' := x.2) ho hw he (.nil ⟨x.1, rfl, by simp⟩)
    · rename_i fo hcal
      refine OpsW.call (c := Operand.av f.ts fo) (args := c.args.toList.map (Operand.av f.ts)) ho hw (by simp only [callO, hx, hcal]) ?_
      exact (hc _ _ _ _ h).mono fun v st' hm => .nil ⟨v, rfl, hm⟩
    · exact hX rd ops i f st o outs ho hw h
  · exact hX rd ops i f st o outs ho hw h

theorem OpsW.cons {rd : Option Nat} {ops : Array Oper} {i : Nat} {l : List Nat} {K : Fm → St → Prop} {f : Fm} {st : St} {o : Oper} (ho : ops[i]? = some o) (hnd : ∀ c, o.op ≠ .defer c) (h : OpsW P rd ops [i] (fun f' st' => OpsW P rd ops l K f' st') f st) : OpsW P rd ops (i :: l) K f st := by
  intro φ w a n Q h1 h2 h3 hQ
  have h4 := h φ w a n (fun e a' w' => e = .normal ∧ wpOpsIn (FW (rdB φ rd)) n P ops Q l a' w') h1 h2 h3 (fun a' w' hl => ⟨rfl, by
    obtain ⟨f', st', φ', hk, he, hrel, hact, hfr⟩ := hl
    have h6 := hk φ' w' a' n Q (fun id hi => Nat.lt_of_lt_of_le (h1 id hi) he.n) hrel hact (fun a2 w2 hl2 => hQ a2 w2 (hl2.trans he hfr))
    rwa [rdB_ext he h1] at h6⟩)
  rw [wpOpsIn_cons] at h4 ⊢
  exact wpOpIn_congr ho hnd rfl rfl (fun _ => rfl) (fun cv w' hk => hk.2) (fun d w' hk => hk.2) (fun e a w hne hk => absurd hk.1 hne) (fun hl => by obtain ⟨a, w, hn, _⟩ := hl; cases hn) h4

variable (T X) in
def evOps (call : CallE) (ops : Array Oper) : List Nat → Fm → St → Option (List (Fm × St))
  | [], f, st => some [(f, st)]
  | i :: l, f, st => match ops[i]? with
    | none => none
    | some o => match lightV T ops st.h f i with
      | some r => evOps call ops l (f.put o.dst r) st
      | none => if plainB o && Region.wanted o (yA ops f.ts) then
          match heavy T X call st (Operand.av f.ts) o with
          | some outs => bindL outs fun x => evOps call ops l (f.put o.dst x.1) x.2
          | none => none
        else none

theorem plain_defer {o : Oper} (h : plainB o = true) (c : Call) : o.op ≠ .defer c := fun hc => by simp [plainB, hc] at h

theorem evOps_ok (hT : TOk P T) (hX : XOk P X) {call : CallE} (hc : CallOk P call) {rd : Option Nat} {ops : Array Oper} {K : Fm → St → Prop} : ∀ (l : List Nat) {f : Fm} {st : St} {outs : List (Fm × St)}, evOps T X call ops l f st = some outs → (∀ x ∈ outs, K x.1 x.2) → OpsW P rd ops l K f st
  | [], f, st, outs, h, hk => by
    simp only [evOps, Option.some.injEq] at h
    subst h
    exact .nil (hk (f, st) (by simp))
  | i :: l, f, st, outs, h, hk => by
    simp only [evOps] at h
    split at h
    · cases h
    · rename_i o ho
      split at h
      · rename_i r hr
        exact OpsW.lightV hT ho hr (evOps_ok hT hX hc l h hk)
      · split at h
        · rename_i hb
          simp only [Bool.and_eq_true] at hb
          split at h
          · rename_i os hos
            refine OpsW.cons ho (plain_defer hb.1) ((heavy_ok hT hX hc ho hb.2 hos).mono fun f' st' ⟨v, hf, hm⟩ => ?_)
            subst hf
            obtain ⟨x, h1, h2⟩ := bindL_ok h (v, st') hm
            exact evOps_ok hT hX hc l h1 fun y hy => hk y (h2 y hy)
          · cases h
        · cases h

/-! ### Drawn ones -/
variable (T) in
def pendOkB (ops : Array Oper) (pend : List (Nat × AV)) (f : Fm) (h : Hp) : Bool := pend.all fun p => match lightV T ops h f p.1 with
  | some r => avEq r p.2
  | none => false

theorem pendOk_of {ops : Array Oper} {pend : List (Nat × AV)} {f : Fm} {h : Hp} (hp : pendOkB T ops pend f h = true) : PendOk T ops pend f h := fun p hm => by
  have := List.all_eq_true.1 hp p hm
  split at this
  · rename_i r hr; rw [hr, avEq_ok this]
  · cases this

/-- Nothing pending looks at what o writes. -/
def noLook (ops : Array Oper) (pend : List (Nat × AV)) (o : Oper) : Bool := match o.dst with
  | none => true
  | some d => pend.all fun p => match ops[p.1]? with
    | some q => !((q.looksAt ops).contains d)
    | none => true

theorem noLook_ok {ops : Array Oper} {pend : List (Nat × AV)} {oi : Oper} (h : noLook ops pend oi = true) : ∀ p ∈ pend, ∀ o, ops[p.1]? = some o → ∀ d, oi.dst = some d → d ∉ o.looksAt ops := fun p hp o ho d hd hm => by
  unfold noLook at h
  rw [hd] at h
  have h1 := List.all_eq_true.1 h p hp
  simp only [ho, Bool.not_eq_true'] at h1
  rw [List.contains_iff_mem.2 hm] at h1
  cases h1

variable (T) in
def pickL (ops : Array Oper) (pend : List (Nat × AV)) (h : Hp) (f : Fm) : List Nat → Option (Nat × AV × Oper)
  | [] => none
  | i :: l => match ops[i]? with
    | none => none
    | some o => match lightV T ops h f i with
      | some r => if noLook ops pend o then some (i, r, o) else pickL ops pend h f l
      | none => pickL ops pend h f l

theorem pickL_ok {ops : Array Oper} {pend : List (Nat × AV)} {h : Hp} {f : Fm} {i : Nat} {r : AV} {o : Oper} : ∀ {l : List Nat}, pickL T ops pend h f l = some (i, r, o) → i ∈ l ∧ lightV T ops h f i = some r ∧ ops[i]? = some o ∧ noLook ops pend o = true := by
  intro l
  induction l with
  | nil => intro hp; cases hp
  | cons j l ih =>
    intro hp
    have later : pickL T ops pend h f l = some (i, r, o) → i ∈ j :: l ∧ lightV T ops h f i = some r ∧ ops[i]? = some o ∧ noLook ops pend o = true := fun h1 =>
      ⟨List.mem_cons_of_mem _ (ih h1).1, (ih h1).2⟩
    unfold pickL at hp
    split at hp
    · cases hp
    · rename_i o' ho
      split at hp
      · rename_i r' hr
        split at hp
        · rename_i hn
          simp only [Option.some.injEq, Prod.mk.injEq] at hp
          obtain ⟨rfl, rfl, rfl⟩ := hp
          exact ⟨List.mem_cons_self, hr, ho, hn⟩
        · exact later hp
      · exact later hp

variable (T X) in
def evDrawn (call : CallE) (ops : Array Oper) (M : List Nat) : Nat → List (Nat × AV) → Array Bool → Fm → St → Option (List (Fm × St))
  | 0, pend, listed, f, st => if pendOkB T ops pend f st.h && (Region.ready .any ops listed).isEmpty then some [(f, st)] else none
  | fuel + 1, pend, listed, f, st =>
    match Region.ready .any ops listed with
    | [] => if pendOkB T ops pend f st.h then some [(f, st)] else none
    | j :: rs => match pickL T ops pend st.h f (j :: rs) with
      | some (i, r, o) => evDrawn call ops M fuel ((i, r) :: pend) (listed.setIfInBounds i true) (f.put o.dst r) st
      | none => if pendOkB T ops pend f st.h then
          bindL (j :: rs) fun i => match ops[i]? with
            | some o => match lightV T ops st.h f i with
              | some r => evDrawn call ops M fuel (dropP M i pend) (listed.setIfInBounds i true) (f.put o.dst r) st
              | none => if Region.wanted o (yA ops f.ts) then
                  match heavy T X call st (Operand.av f.ts) o with
                  | some outs => bindL outs fun x => evDrawn call ops M fuel (dropP M i pend) (listed.setIfInBounds i true) (f.put o.dst x.1) x.2
                  | none => none
                else none
            | none => none
        else none

theorem evDrawn_ok (hT : TOk P T) (hX : XOk P X) {call : CallE} (hc : CallOk P call) {rd : Option Nat} {ops : Array Oper} {M : List Nat} (hM : Tidy ops M) {K : Fm → St → Prop} : ∀ (fuel : Nat) {pend : List (Nat × AV)} {listed : Array Bool} {f : Fm} {st : St} {outs : List (Fm × St)},
    Closed ops listed → PL pend listed → evDrawn T X call ops M fuel pend listed f st = some outs → (∀ x ∈ outs, K x.1 x.2) → AnyD P T ops M rd K fuel pend listed f st
  | 0, pend, listed, f, st, outs, hcl, hpl, h, hk => by
    simp only [evDrawn] at h
    split at h
    · rename_i hb
      simp only [Bool.and_eq_true, List.isEmpty_iff] at hb
      cases h
      exact AnyD.done (pendOk_of hb.1) hb.2 (hk (f, st) (by simp)) 0
    · cases h
  | fuel + 1, pend, listed, f, st, outs, hcl, hpl, h, hk => by
    simp only [evDrawn] at h
    split at h
    · rename_i hrs
      split at h
      · rename_i hb
        cases h
        exact AnyD.done (pendOk_of hb) hrs (hk (f, st) (by simp)) _
      · cases h
    · rename_i j rs hrs
      split at h
      · rename_i i r o hp
        obtain ⟨h1, h2, ho, hn⟩ := pickL_ok hp
        have hri : i ∈ Region.ready .any ops listed := by rw [hrs]; exact h1
        refine AnyD.take hM hT ho fuel hcl hpl (noLook_ok hn) hri h2 (evDrawn_ok hT hX hc hM fuel (hcl.set hri) (fun p hm => ?_) h hk)
        rcases List.mem_cons.1 hm with rfl | hm
        · obtain ⟨_, _, h0, _⟩ := ready_edges hri
          rcases Nat.lt_or_ge i listed.size with hl | hl
          · simp [hl]
          · simp [Array.getElem?_eq_none hl] at h0
        · exact getD_set_true (hpl p hm)
      · split at h
        · rename_i hb
          refine AnyD.all (pendOk_of hb) hrs (by simp) fun i hi => ?_
          obtain ⟨x, h1, h2⟩ := bindL_ok h i hi
          have hri : i ∈ Region.ready .any ops listed := by rw [hrs]; exact hi
          split at h1
          · rename_i o ho
            refine ⟨o, ho, ?_⟩
            split at h1
            · rename_i r hr
              exact OpsW.lightV hT ho hr (.nil ⟨r, rfl, evDrawn_ok hT hX hc hM fuel (hcl.set hri) (fun p hm => getD_set_true (hpl p (List.mem_filter.1 hm).1)) h1 fun z hz => hk z (h2 z hz)⟩)
            · split at h1
              · rename_i hw
                split at h1
                · rename_i os hos
                  refine (heavy_ok hT hX hc ho hw hos).mono fun f' st' ⟨v, hf, hm⟩ => ⟨v, hf, ?_⟩
                  subst hf
                  obtain ⟨y, h3, h4⟩ := bindL_ok h1 (v, st') hm
                  exact evDrawn_ok hT hX hc hM fuel (hcl.set hri) (fun p hm => getD_set_true (hpl p (List.mem_filter.1 hm).1)) h3 fun z hz => hk z (h2 z (h4 z hz))
                · cases h1
              · cases h1
          · cases h1
        · cases h

end
end Go.Ev
