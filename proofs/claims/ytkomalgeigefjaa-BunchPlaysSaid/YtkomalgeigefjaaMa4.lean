/- Own work of the verifier of watercress: EvJ, EvK, EvL, EvM, EvN, EvO. -/
import Derived.Test.YtkomalgeigefjaaMa3
set_option linter.unusedVariables false
set_option linter.unusedSimpArgs false
namespace Go.Ev
def bindL {α β : Type} : List α → (α → Option (List β)) → Option (List β)
  | [], _ => some []
  | a :: r, g => match g a with
    | none => none
    | some x => match bindL r g with
      | none => none
      | some y => some (x ++ y)
theorem bindL_ok {α β : Type} {g : α → Option (List β)} : ∀ {l : List α} {res : List β}, bindL l g = some res → ∀ a ∈ l, ∃ x, g a = some x ∧ ∀ b ∈ x, b ∈ res
  | [], _, _, a, ha => by cases ha
  | a0 :: r, res, h, a, ha => by
    simp only [bindL] at h
    split at h
    · cases h
    · rename_i x hx
      split at h
      · cases h
      · rename_i y hy
        cases h
        rcases List.mem_cons.1 ha with rfl | ha
        · exact ⟨x, hx, fun b hb => List.mem_append_left _ hb⟩
        · obtain ⟨x', h1, h2⟩ := bindL_ok hy a ha
          exact ⟨x', h1, fun b hb => List.mem_append_right _ (h2 b hb)⟩
def litEq : Value → Value → Bool
  | .bool a, .bool b => a == b
  | .int k a, .int j b => k == j && a == b
  | .pointer none, .pointer none => true
  | .slice none a b, .slice none c d => a == c && b == d
  | .map none, .map none => true
  | .nilFunc, .nilFunc => true
  | .pointer (some a), .pointer (some b) => a == b
  | .tuple a, .tuple b => Nat.beq a.size 0 && Nat.beq b.size 0
  | _, _ => false
theorem litEq_ok {a b : Value} (h : litEq a b = true) : a = b := by
  unfold litEq at h
  split at h
  case h_8 a b =>
    simp only [Bool.and_eq_true] at h
    rw [Array.eq_empty_of_size_eq_zero (Nat.eq_of_beq_eq_true h.1), Array.eq_empty_of_size_eq_zero (Nat.eq_of_beq_eq_true h.2)]
  all_goals simp_all
mutual
def avEq : AV → AV → Bool
  | .lit a, .lit b => litEq a b
  | .ptr a b, .ptr c d => a == c && b == d
  | .sl a b c d e, .sl a' b' c' d' e' => a == a' && b == b' && c == c' && d == d' && e == e'
  | .mp a, .mp b => a == b
  | .yld a, .yld b => a == b
  | .fn f a b, .fn g c d => f == g && avsEq a c && avsEq b d
  | .agg a, .agg b => avsEq a b
  | .tup a, .tup b => avsEq a b
  | _, _ => false
def avsEq : List AV → List AV → Bool
  | [], [] => true
  | a :: r, b :: s => avEq a b && avsEq r s
  | _, _ => false
end
mutual
theorem avEq_ok : ∀ {a b : AV}, avEq a b = true → a = b := by
  intro a b h
  unfold avEq at h
  split at h
  · rw [litEq_ok h]
  · simp_all
  · simp_all
  · simp_all
  · simp_all
  · simp only [Bool.and_eq_true, beq_iff_eq] at h
    rw [h.1.1, avsEq_ok h.1.2, avsEq_ok h.2]
  · rw [avsEq_ok h]
  · rw [avsEq_ok h]
  · cases h
theorem avsEq_ok : ∀ {a b : List AV}, avsEq a b = true → a = b := by
  intro a b h
  unfold avsEq at h
  split at h
  · rfl
  · simp only [Bool.and_eq_true] at h
    rw [avEq_ok h.1, avsEq_ok h.2]
  · cases h
end
def esEq : List (AV × AV × Nat) → List (AV × AV × Nat) → Bool
  | [], [] => true
  | x :: r, y :: s => avEq x.1 y.1 && avEq x.2.1 y.2.1 && Nat.beq x.2.2 y.2.2 && esEq r s
  | _, _ => false
theorem esEq_ok : ∀ {a b : List (AV × AV × Nat)}, esEq a b = true → a = b
  | [], [], _ => rfl
  | (k, v, n) :: r, (k', v', n') :: s, h => by
    simp only [esEq, Bool.and_eq_true] at h
    rw [avEq_ok h.1.1.1, avEq_ok h.1.1.2, Nat.eq_of_beq_eq_true h.1.2, esEq_ok h.2]
  | [], _ :: _, h => by cases h
  | _ :: _, [], h => by cases h
def objEq : AObj → AObj → Bool
  | .cells a b c, .cells d e f => a == d && b == e && avsEq c f
  | .dfr, .dfr => true
  | .map a c, .map b d => esEq a b && Nat.beq c d
  | .iter a b c d, .iter a' b' c' d' => Nat.beq a a' && Nat.beq b b' && c == c' && Nat.beq d d'
  | _, _ => false
theorem objEq_ok {a b : AObj} (h : objEq a b = true) : a = b := by
  unfold objEq at h
  split at h
  · simp only [Bool.and_eq_true, beq_iff_eq] at h
    rw [h.1.1, h.1.2, avsEq_ok h.2]
  · rfl
  · simp only [Bool.and_eq_true] at h
    rw [esEq_ok h.1, Nat.eq_of_beq_eq_true h.2]
  · simp only [Bool.and_eq_true, beq_iff_eq] at h
    rw [Nat.eq_of_beq_eq_true h.1.1.1, Nat.eq_of_beq_eq_true h.1.1.2, h.1.2, Nat.eq_of_beq_eq_true h.2]
  · cases h
def hpEq : Hp → Hp → Bool
  | [], [] => true
  | (i, o) :: r, (j, p) :: s => i == j && objEq o p && hpEq r s
  | _, _ => false
theorem hpEq_ok : ∀ {a b : Hp}, hpEq a b = true → a = b
  | [], [], _ => rfl
  | (i, o) :: r, (j, p) :: s, h => by
    simp only [hpEq, Bool.and_eq_true, beq_iff_eq] at h
    rw [h.1.1, objEq_ok h.1.2, hpEq_ok h.2]
  | [], _ :: _, h => by cases h
  | _ :: _, [], h => by cases h
def stEq (a b : St) : Bool := a.n == b.n && hpEq a.h b.h
theorem stEq_ok {a b : St} (h : stEq a b = true) : a = b := by
  simp only [stEq, Bool.and_eq_true, beq_iff_eq] at h
  cases a; cases b; simp only at h; rw [h.1, hpEq_ok h.2]
def dedup : List (AV × St) → List (AV × St)
  | [] => []
  | [x] => [x]
  | x :: r => let r' := dedup r; if r'.any fun y => avEq x.1 y.1 && stEq x.2 y.2 then r' else x :: r'
theorem mem_dedup : ∀ {l : List (AV × St)} {x : AV × St}, x ∈ l → x ∈ dedup l
  | [y], x, h => h
  | y :: z :: r, x, h => by
    simp only [dedup]
    split
    · rename_i hany
      rcases List.mem_cons.1 h with rfl | h
      · rw [List.any_eq_true] at hany
        obtain ⟨y, hy, he⟩ := hany
        simp only [Bool.and_eq_true] at he
        have h1 := avEq_ok he.1
        have h2 := stEq_ok he.2
        have : x = y := by cases x; cases y; simp only at h1 h2; rw [h1, h2]
        rw [this]; exact hy
      · exact mem_dedup h
    · rcases List.mem_cons.1 h with rfl | h
      · exact List.mem_cons_self
      · exact List.mem_cons_of_mem _ (mem_dedup h)
  | [], _, h => by cases h
end Go.Ev
namespace Go.Ev
def St.keep (st : St) (p : Nat → Bool) : St := ⟨st.h.filter fun x => p x.1, st.n⟩
theorem Hp.get_filter {p : Nat → Bool} : ∀ {h : Hp} {id : Nat} {o : AObj}, Hp.get (h.filter fun x => p x.1) id = some o → h.get id = some o
  | [], _, _, h => h
  | (i, x) :: r, id, o, h => by
    rw [List.filter_cons] at h
    by_cases hi : i = id
    · subst hi
      simp only [Hp.get, if_true]
      split at h
      · simpa only [Hp.get, if_true] using h
      · rename_i hp
        exfalso
        have : ∀ {r : Hp}, Hp.get (r.filter fun x => p x.1) i = none := fun {r} => by
          induction r with
          | nil => rfl
          | cons y r ih =>
            rw [List.filter_cons]
            split
            · rename_i hy
              have : ¬ y.1 = i := fun e => hp (by rw [← e]; exact hy)
              simp only [Hp.get, this, if_false, ih]
            · exact ih
        rw [this] at h; cases h
    · simp only [Hp.get, hi, if_false]
      refine Hp.get_filter (p := p) ?_
      split at h
      · simpa only [Hp.get, hi, if_false] using h
      · exact h
theorem Rel.keep {φ : Fi} {st : St} {w : World} (hr : Rel φ st w) (p : Nat → Bool) : Rel φ (st.keep p) w :=
  ⟨hr.n, fun id o h => hr.lt id o (Hp.get_filter h), fun id o h => hr.blk id o (Hp.get_filter h), fun id o h => hr.obj id o (Hp.get_filter h),
   fun i j oi oj hi hj => hr.sep i j oi oj (Hp.get_filter hi) (Hp.get_filter hj)⟩
theorem Fr.keep {φ φ' : Fi} {st st' : St} {w w' : World} (h : Fr φ st w φ' st' w') (p : Nat → Bool) : Fr φ st w φ' (st'.keep p) w' :=
  ⟨h.os, h.tape, h.output, h.size, h.block, fun k ⟨id, o, h1, h2⟩ => h.own k ⟨id, o, Hp.get_filter h1, h2⟩⟩
theorem CallW.keep {P : Program} {g : FuncId} {args : List AV} {st : St} {k : AV → St → Prop} (p : AV → St → Nat → Bool) (h : CallW P g args st (fun v st' => k v (st'.keep (p v st')))) : CallW P g args st k :=
  fun φ w cargs n h1 h2 => (h φ w cargs n h1 h2).mono fun _ _ ⟨v, cv, st', φ', h3, h4, h5, h6, h7, h8⟩ => ⟨v, cv, st'.keep (p v st'), φ', h3, h4, h5, h6, h7.keep _, h8.keep _⟩
mutual
def avLt (n : Nat) : AV → Bool
  | .lit _ => true
  | .ptr i _ | .sl i _ _ _ _ | .mp i | .yld i => Nat.blt i n
  | .fn _ a b => avsLt n a && avsLt n b
  | .agg a | .tup a => avsLt n a
def avsLt (n : Nat) : List AV → Bool
  | [] => true
  | a :: r => avLt n a && avsLt n r
end
def objLt (n : Nat) : AObj → Bool
  | .cells _ _ cs => avsLt n cs
  | .map es _ => es.all fun x => avLt n x.1 && avLt n x.2.1
  | .iter mid _ _ _ => Nat.blt mid n
  | _ => true
def gcP (n0 : Nat) (v : AV) (st : St) (i : Nat) : Bool :=
  if st.n == n0 then true
  else if avLt n0 v && st.h.all (fun x => Nat.ble n0 x.1 || objLt n0 x.2) then Nat.blt i n0 else true
def gcSt (n0 : Nat) (v : AV) (st : St) : St :=
  if st.n == n0 then st
  else if avLt n0 v && st.h.all (fun x => Nat.ble n0 x.1 || objLt n0 x.2) then st.keep fun i => Nat.blt i n0 else st
theorem filter_true {α : Type} : ∀ l : List α, (l.filter fun _ => true) = l
  | [] => rfl
  | a :: r => by rw [List.filter_cons]; simp only [if_true, filter_true r]
theorem gcSt_eq (n0 : Nat) (v : AV) (st : St) : gcSt n0 v st = st.keep (gcP n0 v st) := by
  unfold gcSt gcP St.keep
  split
  · simp only [filter_true]
  · split
    · rfl
    · simp only [filter_true]
section
variable (P : Program) (T : Ti) (G : FuncId → Option Func) (C : FuncId → List AV → St → Option (List (AV × St))) (X : St → (Operand → AV) → Oper → Option (List (AV × St)))
abbrev CallE := AV → List AV → St → Option (List (AV × St))
def CallOk (call : CallE) : Prop := ∀ c args st outs, call c args st = some outs → ApplyW P c args st (fun v st' => (v, st') ∈ outs)
def XOk : Prop := ∀ (rd : Option Nat) (ops : Array Oper) (i : Nat) (f : Fm) (st : St) (o : Oper) (outs : List (AV × St)), ops[i]? = some o → Region.wanted o (yA ops f.ts) = true → X st (Operand.av f.ts) o = some outs →
  OpsW P rd ops [i] (fun f' st' => ∃ v, f' = f.put o.dst v ∧ (v, st') ∈ outs) f st
def heavy (call : CallE) (st : St) (ρ : Operand → AV) (o : Oper) : Option (List (AV × St)) :=
  match o.op with
  | .alloc _ | .box _ _ | .buildSlice _ _ _ | .makeSlice _ _ _ => (evF T st.n ρ o).map fun x => [(x.1, st.push (.cells none false x.2))]
  | .store _ _ _ => match storeO T st ρ o with
    | some s => some [(undA, s)]
    | none => X st ρ o
  | .call c => match c.callee with
    | .builtin .append => (appendO T st ρ o).map fun x => [x]
    | .value f => call (ρ f) (c.args.toList.map ρ) st
    | _ => X st ρ o
  | _ => X st ρ o
variable {P T G C X}
theorem heavy_ok (hT : TOk P T) (hX : XOk P X) {call : CallE} (hc : CallOk P call) {rd : Option Nat} {ops : Array Oper} {i : Nat} {f : Fm} {st : St} {o : Oper} {outs : List (AV × St)} (ho : ops[i]? = some o) (hw : Region.wanted o (yA ops f.ts) = true)
    (h : heavy T X call st (Operand.av f.ts) o = some outs) : OpsW P rd ops [i] (fun f' st' => ∃ v, f' = f.put o.dst v ∧ (v, st') ∈ outs) f st := by
  have hF : ∀ {outs}, (evF T st.n (Operand.av f.ts) o).map (fun x => [(x.1, st.push (.cells none false x.2))]) = some outs → OpsW P rd ops [i] (fun f' st' => ∃ v, f' = f.put o.dst v ∧ (v, st') ∈ outs) f st := fun {outs} h => by
    cases he : evF T st.n (Operand.av f.ts) o with
    | none => rw [he] at h; cases h
    | some x =>
      rw [he] at h
      simp only [Option.map_some, Option.some.injEq] at h
      subst h
      exact OpsW.fresh hT (r := x.1) (cs := x.2) ho hw he (.nil ⟨x.1, rfl, by simp⟩)
  unfold heavy at h
  split at h
  · exact hF h
  · exact hF h
  · exact hF h
  · exact hF h
  · cases he : storeO T st (Operand.av f.ts) o with
    | none => rw [he] at h; exact hX rd ops i f st o outs ho hw h
    | some x =>
      rw [he] at h
      simp only [Option.some.injEq] at h
      subst h
      exact OpsW.store hT ho hw he (.nil ⟨undA, rfl, by simp⟩)
  · rename_i c hx
    split at h
    · cases he : appendO T st (Operand.av f.ts) o with
      | none => rw [he] at h; cases h
      | some x =>
        rw [he] at h
        simp only [Option.map_some, Option.some.injEq] at h
        subst h
        exact OpsW.append hT (r := x.1) (st' := x.2) ho hw he (.nil ⟨x.1, rfl, by simp⟩)
    · rename_i fo hcal
      refine OpsW.call (c := Operand.av f.ts fo) (args := c.args.toList.map (Operand.av f.ts)) ho hw (by simp only [callO, hx, hcal]) ?_
      exact (hc _ _ _ _ h).mono fun v st' hm => .nil ⟨v, rfl, hm⟩
    · exact hX rd ops i f st o outs ho hw h
  · exact hX rd ops i f st o outs ho hw h
theorem OpsW.cons {rd : Option Nat} {ops : Array Oper} {i : Nat} {l : List Nat} {K : Fm → St → Prop} {f : Fm} {st : St} {o : Oper} (ho : ops[i]? = some o) (hnd : ∀ c, o.op ≠ .defer c) (h : OpsW P rd ops [i] (fun f' st' => OpsW P rd ops l K f' st') f st) : OpsW P rd ops (i :: l) K f st := by
  intro φ w a n Q h1 h2 h3 hQ
  have h4 := h φ w a n (fun e a' w' => e = .normal ∧ wpOpsIn (FW (rdB φ rd)) n P ops Q l a' w') h1 h2 h3 (fun a' w' hl => ⟨rfl, by
    obtain ⟨f', st', φ', hk, he, hrel, hact, hfr⟩ := hl
    have h6 := hk φ' w' a' n Q (fun id hi => Nat.lt_of_lt_of_le (h1 id hi) he.n) hrel hact (fun a2 w2 hl2 => hQ a2 w2 (hl2.trans he hfr))
    rwa [rdB_ext he h1] at h6⟩)
  rw [wpOpsIn_cons] at h4 ⊢
  exact wpOpIn_congr ho hnd rfl rfl (fun _ => rfl) (fun cv w' hk => hk.2) (fun d w' hk => hk.2) (fun e a w hne hk => absurd hk.1 hne) (fun hl => by obtain ⟨a, w, hn, _⟩ := hl; cases hn) h4
variable (T X) in
def evOps (call : CallE) (ops : Array Oper) : List Nat → Fm → St → Option (List (Fm × St))
  | [], f, st => some [(f, st)]
  | i :: l, f, st => match ops[i]? with
    | none => none
    | some o => match lightV T ops st.h f i with
      | some r => evOps call ops l (f.put o.dst r) st
      | none => if plainB o && Region.wanted o (yA ops f.ts) then
          match heavy T X call st (Operand.av f.ts) o with
          | some outs => bindL outs fun x => evOps call ops l (f.put o.dst x.1) x.2
          | none => none
        else none
theorem plain_defer {o : Oper} (h : plainB o = true) (c : Call) : o.op ≠ .defer c := fun hc => by simp [plainB, hc] at h
theorem evOps_ok (hT : TOk P T) (hX : XOk P X) {call : CallE} (hc : CallOk P call) {rd : Option Nat} {ops : Array Oper} {K : Fm → St → Prop} : ∀ (l : List Nat) {f : Fm} {st : St} {outs : List (Fm × St)}, evOps T X call ops l f st = some outs → (∀ x ∈ outs, K x.1 x.2) → OpsW P rd ops l K f st
  | [], f, st, outs, h, hk => by
    simp only [evOps, Option.some.injEq] at h
    subst h
    exact .nil (hk (f, st) (by simp))
  | i :: l, f, st, outs, h, hk => by
    simp only [evOps] at h
    split at h
    · cases h
    · rename_i o ho
      split at h
      · rename_i r hr
        exact OpsW.lightV hT ho hr (evOps_ok hT hX hc l h hk)
      · split at h
        · rename_i hb
          simp only [Bool.and_eq_true] at hb
          split at h
          · rename_i os hos
            refine OpsW.cons ho (plain_defer hb.1) ((heavy_ok hT hX hc ho hb.2 hos).mono fun f' st' ⟨v, hf, hm⟩ => ?_)
            subst hf
            obtain ⟨x, h1, h2⟩ := bindL_ok h (v, st') hm
            exact evOps_ok hT hX hc l h1 fun y hy => hk y (h2 y hy)
          · cases h
        · cases h
variable (T) in
def pendOkB (ops : Array Oper) (pend : List (Nat × AV)) (f : Fm) (h : Hp) : Bool := pend.all fun p => match lightV T ops h f p.1 with
  | some r => avEq r p.2
  | none => false
theorem pendOk_of {ops : Array Oper} {pend : List (Nat × AV)} {f : Fm} {h : Hp} (hp : pendOkB T ops pend f h = true) : PendOk T ops pend f h := fun p hm => by
  have := List.all_eq_true.1 hp p hm
  split at this
  · rename_i r hr; rw [hr, avEq_ok this]
  · cases this
def noLook (ops : Array Oper) (pend : List (Nat × AV)) (o : Oper) : Bool := match o.dst with
  | none => true
  | some d => pend.all fun p => match ops[p.1]? with
    | some q => !((q.looksAt ops).contains d)
    | none => true
theorem noLook_ok {ops : Array Oper} {pend : List (Nat × AV)} {oi : Oper} (h : noLook ops pend oi = true) : ∀ p ∈ pend, ∀ o, ops[p.1]? = some o → ∀ d, oi.dst = some d → d ∉ o.looksAt ops := fun p hp o ho d hd hm => by
  unfold noLook at h
  rw [hd] at h
  have h1 := List.all_eq_true.1 h p hp
  simp only [ho, Bool.not_eq_true'] at h1
  rw [List.contains_iff_mem.2 hm] at h1
  cases h1
variable (T) in
def pickL (ops : Array Oper) (pend : List (Nat × AV)) (h : Hp) (f : Fm) : List Nat → Option (Nat × AV × Oper)
  | [] => none
  | i :: l => match ops[i]? with
    | none => none
    | some o => match lightV T ops h f i with
      | some r => if noLook ops pend o then some (i, r, o) else pickL ops pend h f l
      | none => pickL ops pend h f l
theorem pickL_ok {ops : Array Oper} {pend : List (Nat × AV)} {h : Hp} {f : Fm} {i : Nat} {r : AV} {o : Oper} : ∀ {l : List Nat}, pickL T ops pend h f l = some (i, r, o) → i ∈ l ∧ lightV T ops h f i = some r ∧ ops[i]? = some o ∧ noLook ops pend o = true := by
  intro l
  induction l with
  | nil => intro hp; cases hp
  | cons j l ih =>
    intro hp
    have later : pickL T ops pend h f l = some (i, r, o) → i ∈ j :: l ∧ lightV T ops h f i = some r ∧ ops[i]? = some o ∧ noLook ops pend o = true := fun h1 =>
      ⟨List.mem_cons_of_mem _ (ih h1).1, (ih h1).2⟩
    unfold pickL at hp
    split at hp
    · cases hp
    · rename_i o' ho
      split at hp
      · rename_i r' hr
        split at hp
        · rename_i hn
          simp only [Option.some.injEq, Prod.mk.injEq] at hp
          obtain ⟨rfl, rfl, rfl⟩ := hp
          exact ⟨List.mem_cons_self, hr, ho, hn⟩
        · exact later hp
      · exact later hp
variable (T X) in
def evDrawn (call : CallE) (ops : Array Oper) (M : List Nat) : Nat → List (Nat × AV) → Array Bool → Fm → St → Option (List (Fm × St))
  | 0, pend, listed, f, st => if pendOkB T ops pend f st.h && (Region.ready .any ops listed).isEmpty then some [(f, st)] else none
  | fuel + 1, pend, listed, f, st =>
    match Region.ready .any ops listed with
    | [] => if pendOkB T ops pend f st.h then some [(f, st)] else none
    | j :: rs => match pickL T ops pend st.h f (j :: rs) with
      | some (i, r, o) => evDrawn call ops M fuel ((i, r) :: pend) (listed.setIfInBounds i true) (f.put o.dst r) st
      | none => if pendOkB T ops pend f st.h then
          bindL (j :: rs) fun i => match ops[i]? with
            | some o => match lightV T ops st.h f i with
              | some r => evDrawn call ops M fuel (dropP M i pend) (listed.setIfInBounds i true) (f.put o.dst r) st
              | none => if Region.wanted o (yA ops f.ts) then
                  match heavy T X call st (Operand.av f.ts) o with
                  | some outs => bindL outs fun x => evDrawn call ops M fuel (dropP M i pend) (listed.setIfInBounds i true) (f.put o.dst x.1) x.2
                  | none => none
                else none
            | none => none
        else none
theorem evDrawn_ok (hT : TOk P T) (hX : XOk P X) {call : CallE} (hc : CallOk P call) {rd : Option Nat} {ops : Array Oper} {M : List Nat} (hM : Tidy ops M) {K : Fm → St → Prop} : ∀ (fuel : Nat) {pend : List (Nat × AV)} {listed : Array Bool} {f : Fm} {st : St} {outs : List (Fm × St)},
    Closed ops listed → PL pend listed → evDrawn T X call ops M fuel pend listed f st = some outs → (∀ x ∈ outs, K x.1 x.2) → AnyD P T ops M rd K fuel pend listed f st
  | 0, pend, listed, f, st, outs, hcl, hpl, h, hk => by
    simp only [evDrawn] at h
    split at h
    · rename_i hb
      simp only [Bool.and_eq_true, List.isEmpty_iff] at hb
      cases h
      exact AnyD.done (pendOk_of hb.1) hb.2 (hk (f, st) (by simp)) 0
    · cases h
  | fuel + 1, pend, listed, f, st, outs, hcl, hpl, h, hk => by
    simp only [evDrawn] at h
    split at h
    · rename_i hrs
      split at h
      · rename_i hb
        cases h
        exact AnyD.done (pendOk_of hb) hrs (hk (f, st) (by simp)) _
      · cases h
    · rename_i j rs hrs
      split at h
      · rename_i i r o hp
        obtain ⟨h1, h2, ho, hn⟩ := pickL_ok hp
        have hri : i ∈ Region.ready .any ops listed := by rw [hrs]; exact h1
        refine AnyD.take hM hT ho fuel hcl hpl (noLook_ok hn) hri h2 (evDrawn_ok hT hX hc hM fuel (hcl.set hri) (fun p hm => ?_) h hk)
        rcases List.mem_cons.1 hm with rfl | hm
        · obtain ⟨_, _, h0, _⟩ := ready_edges hri
          rcases Nat.lt_or_ge i listed.size with hl | hl
          · simp [hl]
          · simp [Array.getElem?_eq_none hl] at h0
        · exact getD_set_true (hpl p hm)
      · split at h
        · rename_i hb
          refine AnyD.all (pendOk_of hb) hrs (by simp) fun i hi => ?_
          obtain ⟨x, h1, h2⟩ := bindL_ok h i hi
          have hri : i ∈ Region.ready .any ops listed := by rw [hrs]; exact hi
          split at h1
          · rename_i o ho
            refine ⟨o, ho, ?_⟩
            split at h1
            · rename_i r hr
              exact OpsW.lightV hT ho hr (.nil ⟨r, rfl, evDrawn_ok hT hX hc hM fuel (hcl.set hri) (fun p hm => getD_set_true (hpl p (List.mem_filter.1 hm).1)) h1 fun z hz => hk z (h2 z hz)⟩)
            · split at h1
              · rename_i hw
                split at h1
                · rename_i os hos
                  refine (heavy_ok hT hX hc ho hw hos).mono fun f' st' ⟨v, hf, hm⟩ => ⟨v, hf, ?_⟩
                  subst hf
                  obtain ⟨y, h3, h4⟩ := bindL_ok h1 (v, st') hm
                  exact evDrawn_ok hT hX hc hM fuel (hcl.set hri) (fun p hm => getD_set_true (hpl p (List.mem_filter.1 hm).1)) h3 fun z hz => hk z (h2 z (h4 z hz))
                · cases h1
              · cases h1
          · cases h1
        · cases h
end
end Go.Ev
namespace Go.Ev
def tidyC : Code → Bool
  | .region _ ops true => tidyB ops (masks ops)
  | .seq a b => tidyC a && tidyC b
  | .cond _ a b => tidyC a && tidyC b
  | .block _ c => tidyC c
  | .loop c => tidyC c
  | .scope c => tidyC c
  | .rangeFunc _ _ a b => tidyC a && tidyC b
  | _ => true
abbrev Out := Exit × Fm × St
def iterE (body : Fm → St → Option (List Out)) : Nat → Fm → St → Option (List Out)
  | 0, _, _ => none
  | n + 1, f, st => match body f st with
    | none => none
    | some outs => bindL outs fun x => match x with
      | (.normal, f', st') => iterE body n f' st'
      | (e, f', st') => some [(e, f', st')]
def jumpE : Code → Option Exit
  | .ret => some .ret
  | .exit e => some (.exit e)
  | _ => none
def rangeE (lid : Nat) (f : Fm) (st : St) : Option (List Out) :=
  match loopAt st lid with
  | none => none
  | some r => match r.state with
    | .busy => none
    | _ => match r.pending with
      | none => some [(.normal, f, setLoop st lid { r with state := .exhausted })]
      | some c => match jumpE c with
        | some e => some [(e, f, setLoop st lid { r with state := .exhausted })]
        | none => none
section
variable (T : Ti) (X : St → (Operand → AV) → Oper → Option (List (AV × St))) (call : CallE) (L : Nat)
def evCode (rd : Option Nat) : Code → Fm → St → Option (List Out)
  | .skip, f, st => some [(.normal, f, st)]
  | .label _, f, st => some [(.normal, f, st)]
  | .exit id, f, st => some [(.exit id, f, st)]
  | .ret, f, st => some [(.ret, f, st)]
  | .seq a b, f, st => match evCode rd a f st with
    | none => none
    | some outs => bindL outs fun x => match x with
      | (.normal, f', st') => evCode rd b f' st'
      | (e, f', st') => some [(e, f', st')]
  | .cond c a b, f, st => match Operand.av f.ts c with
    | .lit (.bool true) => evCode rd a f st
    | .lit (.bool false) => evCode rd b f st
    | _ => none
  | .block id c, f, st => match evCode rd c f st with
    | none => none
    | some outs => some (outs.map fun x => match x with
      | (.exit id', f', st') => if id' = id then (.normal, f', st') else (.exit id', f', st')
      | y => y)
  | .loop c, f, st => iterE (evCode rd c) L f st
  | .region _ ops true, f, st => (evDrawn T X call ops (masks ops) ops.size [] (Array.replicate ops.size false) f st).map fun l => l.map fun x => (.normal, x.1, x.2)
  | .region _ ops false, f, st => (evOps T X call ops (List.range ops.size) f st).map fun l => l.map fun x => (.normal, x.1, x.2)
  | .rangeFunc g ps assign body, f, st => match Operand.av f.ts g with
    | .fn (.func gf) first caps => match rd with
      | none => match call (.fn (.func gf) first caps) [.yld (st.n + 1)] ((st.push .dfr).push (.loop { state := .ready, pending := none, tmps := f.ts, params := ps, assign, body, dfid := st.n })) with
        | none => none
        | some outs => bindL outs fun x => rangeE (st.n + 1) { f with dm := st.n :: f.dm } x.2
      | some id0 => match loopAt st id0 with
        | none => none
        | some r0 => match call (.fn (.func gf) first caps) [.yld st.n] (st.push (.loop { state := .ready, pending := none, tmps := f.ts, params := ps, assign, body, dfid := r0.dfid })) with
          | none => none
          | some outs => bindL outs fun x => rangeE st.n f x.2
    | _ => none
  | _, _, _ => none
end
section
variable {P : Program} {T : Ti} {X : St → (Operand → AV) → Oper → Option (List (AV × St))} {call : CallE} {L : Nat}
theorem SW.unroll {rd : Option Nat} {c : Code} {K : Exit → Fm → St → Prop} {body : Fm → St → Option (List Out)} (hb : ∀ f st outs, body f st = some outs → SW P rd c (fun e f' st' => (e, f', st') ∈ outs) f st) {n : Nat} {f : Fm} {st : St} {outs : List Out}
    (h : iterE body n f st = some outs) (hk : ∀ x ∈ outs, K x.1 x.2.1 x.2.2) : SW P rd (.loop c) K f st := by
  refine SW.loop (fun n f st => ∃ outs, iterE body n f st = some outs ∧ ∀ x ∈ outs, K x.1 x.2.1 x.2.2) n ⟨outs, h, hk⟩ ?_
  intro n f st ⟨outs, h, hk⟩
  cases n with
  | zero => cases h
  | succ n =>
    simp only [iterE] at h
    split at h
    · cases h
    · rename_i os hos
      refine (hb f st os hos).mono fun e f' st' hm => ?_
      obtain ⟨x, h1, h2⟩ := bindL_ok h _ hm
      cases e with
      | normal => exact ⟨n, Nat.lt_succ_self n, x, h1, fun y hy => hk y (h2 y hy)⟩
      | _ => simp only [Option.some.injEq] at h1; subst h1; exact hk (_, f', st') (h2 (_, f', st') (List.mem_singleton.2 rfl))
theorem rangeE_ok {rd : Option Nat} {lid : Nat} {f : Fm} {st : St} {outs : List Out} {Q : Exit → Fm → St → Prop} (h : rangeE lid f st = some outs) (hq : ∀ x ∈ outs, Q x.1 x.2.1 x.2.2) (v : AV) : rangeK P rd lid Q f v st := by
  unfold rangeE at h
  split at h
  · cases h
  · rename_i r hr
    obtain ⟨s, pd, tmps, ps, as, bd, df⟩ := r
    simp only at h
    have hs : s ≠ .busy := fun e => by subst e; cases h
    refine ⟨_, hr, hs, ?_⟩
    have h' : (match pd with
      | none => some [(Exit.normal, f, setLoop st lid { state := .exhausted, pending := pd, tmps, params := ps, assign := as, body := bd, dfid := df })]
      | some c => match jumpE c with
        | some e => some [(e, f, setLoop st lid { state := .exhausted, pending := pd, tmps, params := ps, assign := as, body := bd, dfid := df })]
        | none => none) = some outs := by
      cases s
      case busy => exact absurd rfl hs
      all_goals (cases pd with
        | none => exact h
        | some c => simp only at h ⊢; cases hj : jumpE c <;> rw [hj] at h <;> exact h)
    cases pd with
    | none =>
      simp only [Option.some.injEq] at h'
      subst h'
      exact hq (.normal, _, _) (List.mem_singleton.2 rfl)
    | some c =>
      simp only at h' ⊢
      cases he : jumpE c with
      | none => rw [he] at h'; cases h'
      | some e =>
        rw [he] at h'
        simp only [Option.some.injEq] at h'
        subst h'
        have := hq (e, _, _) (List.mem_singleton.2 rfl)
        unfold jumpE at he
        split at he
        · cases he; exact .ret this
        · cases he; exact .exit this
        · cases he
theorem evCode_ok (hm : P.follows .mixedOrders = true) (hT : TOk P T) (hX : XOk P X) (hc : CallOk P call) {rd : Option Nat} : ∀ (c : Code) {f : Fm} {st : St} {outs : List Out} {K : Exit → Fm → St → Prop}, tidyC c = true → evCode T X call L rd c f st = some outs → (∀ x ∈ outs, K x.1 x.2.1 x.2.2) → SW P rd c K f st := by
  intro c
  induction c with
  | skip => intro f st outs K ht h hk; simp only [evCode, Option.some.injEq] at h; subst h; exact .skip (hk (.normal, f, st) (by simp))
  | label l => intro f st outs K ht h hk; simp only [evCode, Option.some.injEq] at h; subst h; exact .label (hk (.normal, f, st) (by simp))
  | exit id => intro f st outs K ht h hk; simp only [evCode, Option.some.injEq] at h; subst h; exact .exit (hk (.exit id, f, st) (by simp))
  | ret => intro f st outs K ht h hk; simp only [evCode, Option.some.injEq] at h; subst h; exact .ret (hk (.ret, f, st) (by simp))
  | goto l => intro f st outs K ht h hk; simp only [evCode] at h; cases h
  | scope c ih => intro f st outs K ht h hk; simp only [evCode] at h; cases h
  | refuse why => intro f st outs K ht h hk; simp only [evCode] at h; cases h
  | seq a b iha ihb =>
    intro f st outs K ht h hk
    simp only [tidyC, Bool.and_eq_true] at ht
    simp only [evCode] at h
    split at h
    · cases h
    · rename_i os hos
      refine .seq (iha ht.1 hos fun x hx => ?_)
      obtain ⟨e, f', st'⟩ := x
      obtain ⟨y, h1, h2⟩ := bindL_ok h _ hx
      cases e with
      | normal => exact ihb ht.2 h1 fun z hz => hk z (h2 z hz)
      | _ => simp only [Option.some.injEq] at h1; subst h1; exact hk (_, f', st') (h2 (_, f', st') (List.mem_singleton.2 rfl))
  | cond c a b iha ihb =>
    intro f st outs K ht h hk
    simp only [tidyC, Bool.and_eq_true] at ht
    simp only [evCode] at h
    split at h
    · rename_i hq; exact .cond hq (iha ht.1 h hk)
    · rename_i hq; exact .cond hq (ihb ht.2 h hk)
    · cases h
  | block id c ih =>
    intro f st outs K ht h hk
    simp only [tidyC] at ht
    simp only [evCode] at h
    split at h
    · cases h
    · rename_i os hos
      simp only [Option.some.injEq] at h
      subst h
      refine .block (ih ht hos fun x hx => ?_)
      obtain ⟨e, f', st'⟩ := x
      have h1 := hk _ (List.mem_map_of_mem hx)
      cases e with
      | exit id' =>
        simp only [blockQ]
        split
        · rename_i hid; simp only [hid, if_true] at h1; exact h1
        · rename_i hid; simp only [hid, if_false] at h1; exact h1
      | _ => exact h1
  | loop c ih =>
    intro f st outs K ht h hk
    simp only [tidyC] at ht
    simp only [evCode] at h
    exact SW.unroll (fun f st outs h => ih ht h fun x hx => hx) h hk
  | region id ops draw =>
    intro f st outs K ht h hk
    cases draw with
    | false =>
      simp only [evCode] at h
      cases he : evOps T X call ops (List.range ops.size) f st with
      | none => rw [he] at h; cases h
      | some l =>
        rw [he] at h
        simp only [Option.map_some, Option.some.injEq] at h
        subst h
        exact .region (evOps_ok hT hX hc _ he fun x hx => hk _ (List.mem_map_of_mem hx))
    | true =>
      simp only [tidyC] at ht
      simp only [evCode] at h
      cases he : evDrawn T X call ops (masks ops) ops.size [] (Array.replicate ops.size false) f st with
      | none => rw [he] at h; cases h
      | some l =>
        rw [he] at h
        simp only [Option.map_some, Option.some.injEq] at h
        subst h
        exact .drawn hm (tidy_of ht) (evDrawn_ok hT hX hc (tidy_of ht) _ closed_nil (fun p hp => by cases hp) he fun x hx => hk _ (List.mem_map_of_mem hx))
  | rangeFunc g ps assign body iha ihb =>
    intro f st outs K ht h hk
    simp only [evCode] at h
    split at h
    · rename_i gf first caps hg
      cases rd with
      | none =>
        simp only at h
        split at h
        · cases h
        · rename_i os hos
          obtain ⟨hent, hcw⟩ := hc _ _ _ _ hos
          refine .rangeFunc hg hent (hcw.mono fun v st' hm => ?_)
          obtain ⟨y, h1, h2⟩ := bindL_ok h _ hm
          exact rangeE_ok h1 (fun x hx => hk x (h2 x hx)) v
      | some id0 =>
        simp only at h
        split at h
        · cases h
        · rename_i r0 hr0
          split at h
          · cases h
          · rename_i os hos
            obtain ⟨hent, hcw⟩ := hc _ _ _ _ hos
            refine .rangeFuncIn hr0 hg hent (hcw.mono fun v st' hm => ?_)
            obtain ⟨y, h1, h2⟩ := bindL_ok h _ hm
            exact rangeE_ok h1 (fun x hx => hk x (h2 x hx)) v
    · cases h
end
def retE (T : Ti) (fn : Func) (n0 : Nat) (x : Out) : Option (List (AV × St)) :=
  match x with
  | (.normal, f, st) | (.ret, f, st) => match killA f.dm st with
    | none => none
    | some st' => match resA T fn.results f st' with
      | none => none
      | some v => some [(v, gcSt n0 v st')]
  | _ => none
def roundE (id : Nat) (x : Out) : Option (List (AV × St)) :=
  match x with
  | (.normal, _, st) => match loopAt st id with
    | some r => some [(.lit (.bool true), setLoop st id { r with state := .ready, pending := none })]
    | none => none
  | (.ret, _, st) => match loopAt st id with
    | some r => some [(.lit (.bool false), setLoop st id { r with state := .done, pending := some .ret })]
    | none => none
  | (.exit e, _, st) => match loopAt st id with
    | some r => some [(.lit (.bool false), setLoop st id { r with state := .done, pending := some (.exit e) })]
    | none => none
  | _ => none
def readyB : LoopState → Bool
  | .ready => true
  | _ => false
section
variable (T : Ti) (X : St → (Operand → AV) → Oper → Option (List (AV × St))) (L : Nat) (G : FuncId → Option Func) (C : FuncId → List AV → St → Option (List (AV × St)))
def evApply : Nat → CallE
  | 0, _, _, _ => none
  | n + 1, c, args, st => match c with
    | .fn (.func g) first caps => match C g (first ++ args ++ caps) st with
      | some outs => some outs
      | none => match G g with
        | none => none
        | some fn => match fn.body with
          | none => none
          | some b => match evCode T X (evApply n) L none b ⟨(first ++ args ++ caps) ++ List.replicate (fn.ntmps - (first ++ args ++ caps).length) undA, []⟩ st with
            | none => none
            | some outs => (bindL outs (retE T fn st.n)).map dedup
    | .yld id => match loopAt st id with
      | none => none
      | some r => if args.length == r.params.size && (tidyC r.assign && tidyC r.body) then
          match evCode T X (evApply n) L (some id) r.assign ⟨setPs r.tmps (r.params.toList.zip args), []⟩ st with
          | none => none
          | some outs => bindL outs fun x => match x with
            | (.normal, f1, st1) => match loopAt st1 id with
              | none => none
              | some r1 => if readyB r1.state && tidyC r.body then
                  match evCode T X (evApply n) L (some id) r.body f1 (setLoop st1 id { r1 with state := .busy }) with
                  | none => none
                  | some o2 => bindL o2 (roundE id)
                else none
            | _ => none
        else none
    | _ => none
end
section
variable {P : Program} {T : Ti} {X : St → (Operand → AV) → Oper → Option (List (AV × St))} {L : Nat} {G : FuncId → Option Func} {C : FuncId → List AV → St → Option (List (AV × St))}
variable (P G) in
def GOk : Prop := ∀ g fn, G g = some fn → P.funcs[g]? = some fn ∧ Enters P g ∧ ∀ b, fn.body = some b → tidyC b = true
variable (P C) in
def COk : Prop := ∀ g args st outs, C g args st = some outs → Enters P g ∧ CallW P g args st (fun v st' => (v, st') ∈ outs)
theorem evApply_ok (hm : P.follows .mixedOrders = true) (hT : TOk P T) (hX : XOk P X) (hG : GOk P G) (hC : COk P C) : ∀ n, CallOk P (evApply T X L G C n)
  | 0 => fun c args st outs h => by cases h
  | n + 1 => fun c args st outs' h => by
    have ih := evApply_ok hm hT hX hG hC n
    unfold evApply at h
    split at h
    · rename_i g first caps
      split at h
      · rename_i os hos
        cases h
        exact hC _ _ _ _ hos
      · split at h
        · cases h
        · rename_i fn hfn
          obtain ⟨hf, hent, htid⟩ := hG _ _ hfn
          split at h
          · cases h
          · rename_i b hb
            split at h
            · cases h
            · rename_i os hos
              cases he : bindL os (retE T fn st.n) with
              | none => rw [he] at h; cases h
              | some l =>
                rw [he] at h
                simp only [Option.map_some, Option.some.injEq] at h
                subst h
                refine ⟨hent, CallW.keep (gcP st.n) (callW_of_body hT hf hb (evCode_ok hm hT hX ih b (htid b hb) hos fun x hx => ?_))⟩
                obtain ⟨e, f', st'⟩ := x
                obtain ⟨y, h1, h2⟩ := bindL_ok he _ hx
                have fin : (match killA f'.dm st' with
                    | none => none
                    | some st' => match resA T fn.results f' st' with
                      | none => none
                      | some v => some [(v, gcSt st.n v st')]) = some y → ∃ st'' v, killA f'.dm st' = some st'' ∧ resA T fn.results f' st'' = some v ∧ (v, st''.keep (gcP st.n v st'')) ∈ dedup l := fun h3 => by
                  split at h3
                  · cases h3
                  · rename_i st2 hst2
                    split at h3
                    · cases h3
                    · rename_i v hv
                      cases h3
                      refine ⟨st2, v, hst2, hv, mem_dedup (h2 _ ?_)⟩
                      rw [← gcSt_eq]; simp
                cases e with
                | normal => exact fin h1
                | ret => exact fin h1
                | exit id => cases h1
                | goto l => cases h1
                | panic c => cases h1
                | outgrown => cases h1
    · rename_i id
      split at h
      · cases h
      · rename_i r hr
        split at h
        · rename_i hb
          simp only [Bool.and_eq_true, beq_iff_eq] at hb
          split at h
          · cases h
          · rename_i os hos
            refine YieldW.of_round hr hb.1 (evCode_ok hm hT hX ih r.assign hb.2.1 hos fun x hx => ?_)
            obtain ⟨e, f1, st1⟩ := x
            obtain ⟨y, h1, h2⟩ := bindL_ok h _ hx
            cases e with
            | normal =>
              simp only at h1
              split at h1
              · cases h1
              · rename_i r1 hr1
                split at h1
                · rename_i hb1
                  simp only [Bool.and_eq_true] at hb1
                  split at h1
                  · cases h1
                  · rename_i o2 ho2
                    refine ⟨r1, hr1, ?_, ?_⟩
                    · unfold readyB at hb1
                      cases hs : r1.state <;> rw [hs] at hb1 <;> simp at hb1 ⊢
                    · refine evCode_ok hm hT hX ih r.body hb1.2 ho2 fun z hz => ?_
                      obtain ⟨e, f2, st2⟩ := z
                      obtain ⟨q, h3, h4⟩ := bindL_ok h1 _ hz
                      unfold roundE at h3
                      have fin : ∀ {v : AV} {s2 : St}, q = [(v, s2)] → (v, s2) ∈ outs' := fun {v s2} hq => by subst hq; exact h2 _ (h4 _ (List.mem_singleton.2 rfl))
                      cases e with
                      | normal =>
                        simp only at h3
                        split at h3
                        · rename_i r2 hr2; cases h3; exact ⟨r2, hr2, fin rfl⟩
                        · cases h3
                      | ret =>
                        simp only at h3
                        split at h3
                        · rename_i r2 hr2; cases h3; exact ⟨r2, hr2, fin rfl⟩
                        · cases h3
                      | exit id =>
                        simp only at h3
                        split at h3
                        · rename_i r2 hr2; cases h3; exact ⟨r2, hr2, fin rfl⟩
                        · cases h3
                      | goto l => cases h3
                      | panic c => cases h3
                      | outgrown => cases h3
                · cases h1
            | exit id => cases h1
            | ret => cases h1
            | goto l => cases h1
            | panic c => cases h1
            | outgrown => cases h1
        · cases h
    · cases h
end
end Go.Ev
namespace Go.Ev
def tab (P : Program) (t : TypeId) : Option TI :=
  match P.underlying t, P.info? t with
  | some d, some ti => match ti.zero with
    | some z => some { desc := d, size := ti.size, bytes := ti.bytes, zero := z.cells.toList, flat := !(P.stoodInHeld t) && !(P.eqGuardType P.depth t) }
    | none => none
  | _, _ => none
theorem tab_ok (P : Program) : TOk P (tab P) := fun t i h => by
  unfold tab at h
  split at h
  · rename_i d ti hd hti
    split at h
    · rename_i z hz
      cases h
      exact ⟨hd, ⟨ti, z, hti, rfl, rfl, hz, rfl⟩, fun hf => by simpa using hf⟩
    · cases h
  · cases h
def ofTab (l : List (Option TI)) : Ti := fun t => (l[t]?).getD none
theorem ofTab_ok {P : Program} {l : List (Option TI)} {n : Nat} (h : l = (List.range n).map (tab P)) : TOk P (ofTab l) := fun t i hi => by
  refine tab_ok P t i ?_
  unfold ofTab at hi
  subst h
  rw [List.getElem?_map] at hi
  cases hr : (List.range n)[t]? with
  | none => rw [hr] at hi; cases hi
  | some x =>
    rw [hr] at hi
    have : x = t := by
      obtain ⟨hx, he⟩ := List.getElem?_eq_some_iff.1 hr
      simpa using he.symm
    subst this
    exact hi
def ofFns (l : List (FuncId × Func)) (g : FuncId) : Option Func :=
  match l with
  | [] => none
  | (i, f) :: r => if Nat.beq i g then some f else ofFns r g
def fnsB (P : Program) : List (FuncId × Func) → Prop
  | [] => True
  | (i, f) :: r => (P.funcs[i]? = some f ∧ Enters P i ∧ (match f.body with | some b => tidyC b | none => true) = true) ∧ fnsB P r
theorem ofFns_ok {P : Program} : ∀ {l : List (FuncId × Func)}, fnsB P l → GOk P (ofFns l)
  | [], _, g, fn, h => by cases h
  | (i, f) :: r, hb, g, fn, h => by
    simp only [ofFns] at h
    split at h
    · rename_i hi
      cases h
      have : i = g := Nat.eq_of_beq_eq_true hi
      subst this
      refine ⟨hb.1.1, hb.1.2.1, fun b hbb => ?_⟩
      have := hb.1.2.2
      rw [hbb] at this
      exact this
    · exact ofFns_ok hb.2 g fn h
end Go.Ev
namespace Go.Ev
inductive Tr where
  | nil
  | node (v : AV) (l r : Tr)
def Tr.get : Tr → Nat → AV
  | .nil, _ => undA
  | .node v l r, i => match Nat.beq i 0 with
    | true => v
    | false => match Nat.beq (i % 2) 1 with
      | true => l.get (i / 2)
      | false => r.get (i / 2 - 1)
def Tr.set : Nat → Tr → Nat → AV → Tr
  | 0, t, _, _ => t
  | n + 1, .nil, i, x => match Nat.beq i 0 with
    | true => .node x .nil .nil
    | false => match Nat.beq (i % 2) 1 with
      | true => .node undA (Tr.set n .nil (i / 2) x) .nil
      | false => .node undA .nil (Tr.set n .nil (i / 2 - 1) x)
  | n + 1, .node v l r, i, x => match Nat.beq i 0 with
    | true => .node x l r
    | false => match Nat.beq (i % 2) 1 with
      | true => .node v (Tr.set n l (i / 2) x) r
      | false => .node v l (Tr.set n r (i / 2 - 1) x)
theorem Tr.get_set : ∀ (n : Nat) (t : Tr) (i j : Nat) (x : AV), i + 1 < 2 ^ n → (Tr.set n t i x).get j = if j = i then x else t.get j := by
  intro n
  induction n with
  | zero => intro t i j x h; simp at h
  | succ n ih =>
    intro t i j x h
    have hp : 2 ^ (n + 1) = 2 * 2 ^ n := by rw [Nat.pow_succ]; omega
    rw [hp] at h
    have key : ∀ (v : AV) (l r : Tr), (match Nat.beq i 0 with
        | true => Tr.node x l r
        | false => match Nat.beq (i % 2) 1 with
          | true => .node v (Tr.set n l (i / 2) x) r
          | false => .node v l (Tr.set n r (i / 2 - 1) x)).get j = if j = i then x else (Tr.node v l r).get j := by
      intro v l r
      cases hi : Nat.beq i 0 with
      | true =>
        have hi := Nat.eq_of_beq_eq_true hi
        subst hi
        simp only [Tr.get]
        cases hj : Nat.beq j 0 with
        | true => have hj := Nat.eq_of_beq_eq_true hj; subst hj; simp
        | false => have hj := Nat.ne_of_beq_eq_false hj; simp [hj]
      | false =>
        have hi := Nat.ne_of_beq_eq_false hi
        cases hm : Nat.beq (i % 2) 1 with
        | true =>
          have hm := Nat.eq_of_beq_eq_true hm
          simp only [Tr.get]
          cases hj : Nat.beq j 0 with
          | true => have hj := Nat.eq_of_beq_eq_true hj; subst hj; simp [Ne.symm hi]
          | false =>
            have hj := Nat.ne_of_beq_eq_false hj
            cases hq : Nat.beq (j % 2) 1 with
            | true =>
              have hq := Nat.eq_of_beq_eq_true hq
              simp only
              rw [ih _ _ _ _ (by omega)]
              by_cases hji : j = i
              · simp [hji]
              · rw [if_neg (by omega), if_neg hji]
            | false =>
              have hq := Nat.ne_of_beq_eq_false hq
              simp only
              rw [if_neg (by intro e; subst e; exact hq hm)]
        | false =>
          have hm := Nat.ne_of_beq_eq_false hm
          simp only [Tr.get]
          cases hj : Nat.beq j 0 with
          | true => have hj := Nat.eq_of_beq_eq_true hj; subst hj; simp [Ne.symm hi]
          | false =>
            have hj := Nat.ne_of_beq_eq_false hj
            cases hq : Nat.beq (j % 2) 1 with
            | true =>
              have hq := Nat.eq_of_beq_eq_true hq
              simp only
              rw [if_neg (by intro e; subst e; exact hm hq)]
            | false =>
              have hq := Nat.ne_of_beq_eq_false hq
              simp only
              rw [ih _ _ _ _ (by omega)]
              by_cases hji : j = i
              · simp [hji]
              · rw [if_neg (by omega), if_neg hji]
    cases t with
    | nil =>
      have h0 : ∀ j, (Tr.node undA .nil .nil).get j = Tr.nil.get j := fun j => by
        by_cases h1 : Nat.beq j 0 = true <;> by_cases h2 : Nat.beq (j % 2) 1 = true <;> simp only [Tr.get, h1, h2]
      have := key undA .nil .nil
      rw [h0] at this
      exact this
    | node v l r => exact key v l r
structure TF where
  t : Tr
  len : Nat
  dm : List Nat
def TF.abs (f : TF) : Fm := ⟨(List.range f.len).map f.t.get, f.dm⟩
def bigT : Nat := 1048575
def TF.put (f : TF) (dst : Option Tmp) (v : AV) : TF :=
  match dst with
  | none => f
  | some d => match Nat.blt d f.len with
    | true => ⟨Tr.set 20 f.t d v, f.len, f.dm⟩
    | false => f
def TF.ok (f : TF) : Prop := f.len ≤ bigT
theorem TF.put_len (f : TF) (dst : Option Tmp) (v : AV) : (f.put dst v).len = f.len := by
  unfold TF.put
  cases dst with
  | none => rfl
  | some d => simp only; split <;> rfl
theorem TF.put_ok {f : TF} (h : f.ok) (dst : Option Tmp) (v : AV) : (f.put dst v).ok := by unfold TF.ok; rw [TF.put_len]; exact h
theorem TF.abs_put {f : TF} (h : f.ok) (dst : Option Tmp) (v : AV) : (f.put dst v).abs = f.abs.put dst v := by
  cases dst with
  | none => rfl
  | some d =>
    unfold TF.put
    simp only
    cases hd : Nat.blt d f.len with
    | true =>
      have hd : d < f.len := Nat.le_of_ble_eq_true hd
      simp only [TF.abs, Fm.put]
      congr 1
      apply List.ext_getElem
      · simp
      · intro i h1 h2
        simp only [List.length_map, List.length_range] at h1
        rw [List.getElem_map, List.getElem_range, Tr.get_set 20 f.t d i v (Nat.lt_of_lt_of_le (Nat.succ_lt_succ hd) (by unfold TF.ok bigT at h; omega)), List.getElem_set]
        by_cases hi : i = d
        · subst hi; simp
        · rw [if_neg hi, if_neg (Ne.symm hi)]; simp
    | false =>
      have hd : ¬ d < f.len := fun hlt => by
        have : Nat.blt d f.len = true := Nat.ble_eq_true_of_le hlt
        rw [this] at hd; cases hd
      simp only [TF.abs, Fm.put]
      congr 1
      exact (List.set_eq_of_length_le (by simpa using hd)).symm
def TF.at (f : TF) (d : Nat) : AV := match Nat.blt d f.len with
  | true => f.t.get d
  | false => undA
theorem TF.at_eq (f : TF) (d : Nat) : f.abs.ts.getD d undA = f.at d := by
  unfold TF.at TF.abs
  cases hd : Nat.blt d f.len with
  | true =>
    have hd : d < f.len := Nat.le_of_ble_eq_true hd
    simp [List.getD_eq_getElem?_getD, hd]
  | false =>
    have hd : ¬ d < f.len := fun hlt => by
      have : Nat.blt d f.len = true := Nat.ble_eq_true_of_le hlt
      rw [this] at hd; cases hd
    simp only [List.getD_eq_getElem?_getD]
    rw [List.getElem?_eq_none (by simpa using hd)]
    rfl
def TF.av (f : TF) : Operand → AV
  | .tmp t => f.at t
  | .const v => ofV v
  | .global g => .lit (.pointer (some ⟨g, 0, none⟩))
  | .func g => .fn (.func g) [] []
theorem TF.av_eq (f : TF) : Operand.av f.abs.ts = f.av := by
  funext x
  cases x with
  | tmp t => exact f.at_eq t
  | _ => rfl
def TF.y (ops : Array Oper) (f : TF) (j : Nat) : Option Bool :=
  match (ops[j]?).bind (·.dst) with
  | none => none
  | some d => match Nat.blt d f.len with
    | true => match f.t.get d with
      | .lit (.bool b) => some b
      | _ => none
    | false => none
theorem TF.y_eq (ops : Array Oper) (f : TF) : yA ops f.abs.ts = f.y ops := by
  funext j
  unfold yA TF.y
  cases hd : (ops[j]?).bind (·.dst) with
  | none => rfl
  | some d =>
    simp only [Option.bind_some]
    cases hb : Nat.blt d f.len with
    | true =>
      have hlt : d < f.len := Nat.le_of_ble_eq_true hb
      have : f.abs.ts[d]? = some (f.t.get d) := by simp [TF.abs, hlt]
      rw [this]
      simp only
      split
      · rename_i b hq; simp only [Option.some.injEq] at hq; rw [hq]
      · rename_i hq
        split
        · rename_i b hq2; exact absurd (by rw [hq2]) (hq b)
        · rfl
    | false =>
      have hlt : ¬ d < f.len := fun hlt => by
        have : Nat.blt d f.len = true := Nat.ble_eq_true_of_le hlt
        rw [this] at hb; cases hb
      have : f.abs.ts[d]? = none := List.getElem?_eq_none (by simpa [TF.abs] using hlt)
      rw [this]
def Tr.fill : Nat → List AV → Tr → Tr
  | _, [], t => t
  | i, v :: l, t => Tr.fill (i + 1) l (Tr.set 20 t i v)
theorem Tr.get_fill : ∀ (l : List AV) (i : Nat) (t : Tr) (j : Nat), i + l.length ≤ bigT → (Tr.fill i l t).get j = if i ≤ j ∧ j < i + l.length then l.getD (j - i) undA else t.get j
  | [], i, t, j, _ => by
    rw [if_neg (by simp)]; rfl
  | v :: l, i, t, j, h => by
    simp only [List.length_cons] at h
    simp only [Tr.fill]
    rw [Tr.get_fill l (i + 1) _ j (by omega), Tr.get_set 20 t i j v (by unfold bigT at h; omega)]
    simp only [List.length_cons]
    by_cases hj : j = i
    · subst hj
      rw [if_neg (by omega), if_pos rfl, if_pos (by omega)]
      simp
    · by_cases h2 : i + 1 ≤ j ∧ j < i + 1 + l.length
      · rw [if_pos h2, if_pos (by omega)]
        have : j - i = (j - (i + 1)) + 1 := by omega
        rw [this]; simp
      · rw [if_neg h2, if_neg hj, if_neg (by omega)]
def TF.of (l : List AV) (n : Nat) : TF := ⟨Tr.fill 0 l .nil, max l.length n, []⟩
theorem TF.abs_of {l : List AV} {n : Nat} (h : max l.length n ≤ bigT) : (TF.of l n).abs = ⟨l ++ List.replicate (n - l.length) undA, []⟩ := by
  unfold TF.of TF.abs
  simp only
  congr 1
  apply List.ext_getElem
  · simp; omega
  · intro i h1 h2
    simp only [List.length_map, List.length_range] at h1
    rw [List.getElem_map, List.getElem_range, Tr.get_fill l 0 .nil i (by omega)]
    by_cases hi : i < l.length
    · rw [if_pos (by omega), List.getElem_append_left hi]
      simp [List.getD_eq_getElem?_getD, hi]
    · rw [if_neg (by omega), List.getElem_append_right (by omega)]
      simp [Tr.get]
theorem TF.of_ok {l : List AV} {n : Nat} (h : max l.length n ≤ bigT) : (TF.of l n).ok := h
end Go.Ev
namespace Go.Ev
section
variable {P : Program} {T : Ti} {X : St → (Operand → AV) → Oper → Option (List (AV × St))} {call : CallE}
def wantT (ops : Array Oper) (f : TF) (o : Oper) : Bool := match o.guard with
  | none => true
  | some _ => Region.wanted o (f.y ops)
theorem wantT_eq (ops : Array Oper) (f : TF) (o : Oper) : Region.wanted o (yA ops f.abs.ts) = wantT ops f o := by
  rw [TF.y_eq]
  unfold wantT
  cases hg : o.guard with
  | none => unfold Region.wanted; rw [hg]
  | some g => rfl
variable (T) in
def lightT (ops : Array Oper) (h : Hp) (f : TF) (o : Oper) : Option AV := match wantT ops f o with
  | true => evG T h f.av o
  | false => some undA
theorem lightT_eq {ops : Array Oper} {h : Hp} {f : TF} {i : Nat} {o : Oper} (ho : ops[i]? = some o) : lightV T ops h f.abs i = lightT T ops h f o := by
  unfold lightV lightT
  simp only [ho, wantT_eq, TF.av_eq]
  cases wantT ops f o <;> rfl
variable (T X call) in
def evOps2 (ops : Array Oper) : List Oper → TF → St → Option (List (TF × St))
  | [], f, st => some [(f, st)]
  | o :: l, f, st => match lightT T ops st.h f o with
    | some r => evOps2 ops l (f.put o.dst r) st
    | none => match plainB o && wantT ops f o with
      | true => match heavy T X call st f.av o with
        | some outs => bindL outs fun x => evOps2 ops l (f.put o.dst x.1) x.2
        | none => none
      | false => none
theorem evOps2_ok (hT : TOk P T) (hX : XOk P X) (hc : CallOk P call) {rd : Option Nat} {ops : Array Oper} {K : Fm → St → Prop} : ∀ (l : List Oper) (i : Nat) {f : TF} {st : St} {outs : List (TF × St)}, f.ok → l = ops.toList.drop i → evOps2 T X call ops l f st = some outs → (∀ x ∈ outs, x.1.ok → K x.1.abs x.2) →
    OpsW P rd ops (List.range' i l.length) K f.abs st
  | [], i, f, st, outs, hf, hl, h, hk => by
    simp only [evOps2, Option.some.injEq] at h
    subst h
    exact .nil (hk (f, st) (List.mem_singleton.2 rfl) hf)
  | o :: l, i, f, st, outs, hf, hl, h, hk => by
    have ho : ops[i]? = some o := by
      have h1 : (ops.toList.drop i)[0]? = some o := by rw [← hl]; rfl
      rw [List.getElem?_drop] at h1
      simpa using h1
    have hl' : l = ops.toList.drop (i + 1) := by
      have h1 : (ops.toList.drop i).drop 1 = l := by rw [← hl]; rfl
      rw [← h1, List.drop_drop]
    rw [List.length_cons, List.range'_succ]
    simp only [evOps2] at h
    split at h
    · rename_i r hr
      rw [← lightT_eq ho] at hr
      refine OpsW.lightV hT ho hr ?_
      rw [← TF.abs_put hf]
      exact evOps2_ok hT hX hc l (i + 1) (TF.put_ok hf _ _) hl' h hk
    · split at h
      · rename_i hb
        simp only [Bool.and_eq_true] at hb
        split at h
        · rename_i os hos
          rw [← TF.av_eq] at hos
          refine OpsW.cons ho (plain_defer hb.1) ((heavy_ok hT hX hc ho (by rw [wantT_eq]; exact hb.2) hos).mono fun f' st' ⟨v, hf', hm⟩ => ?_)
          subst hf'
          obtain ⟨x, h1, h2⟩ := bindL_ok h (v, st') hm
          rw [← TF.abs_put hf]
          exact evOps2_ok hT hX hc l (i + 1) (TF.put_ok hf _ _) hl' h1 fun y hy => hk y (h2 y hy)
        · cases h
      · cases h
def maskL (es : List Nat) : Nat := es.foldr (fun e m => (1 <<< e) ||| m) 0
theorem testBit_maskL : ∀ (es : List Nat) (i : Nat), (maskL es).testBit i = decide (i ∈ es)
  | [], i => by simp [maskL]
  | e :: es, i => by
    have ih := testBit_maskL es i
    unfold maskL at *
    rw [List.foldr_cons, Nat.testBit_or, ih, Nat.one_shiftLeft, Nat.testBit_two_pow]
    by_cases h : e = i
    · subst h; simp
    · by_cases h2 : i ∈ es <;> simp [h, h2, Ne.symm h]
theorem land_mask {es : List Nat} {L : Nat} : Nat.beq (Nat.land (maskL es) L) (maskL es) = es.all fun e => L.testBit e := by
  have h1 : Nat.beq (Nat.land (maskL es) L) (maskL es) = true ↔ (es.all fun e => L.testBit e) = true := by
    rw [show (Nat.beq (Nat.land (maskL es) L) (maskL es) = true) = (Nat.land (maskL es) L = maskL es) from propext ⟨Nat.eq_of_beq_eq_true, fun h => by rw [h]; exact Nat.beq_refl _⟩, List.all_eq_true]
    constructor
    · intro h e he
      have : (Nat.land (maskL es) L).testBit e = (maskL es).testBit e := by rw [h]
      rw [show Nat.land (maskL es) L = maskL es &&& L from rfl, Nat.testBit_and, testBit_maskL] at this
      simpa [he] using this
    · intro h
      apply Nat.eq_of_testBit_eq
      intro i
      rw [show Nat.land (maskL es) L = maskL es &&& L from rfl, Nat.testBit_and, testBit_maskL]
      by_cases hi : i ∈ es
      · simp [hi, h i hi]
      · simp [hi]
  cases h2 : Nat.beq (Nat.land (maskL es) L) (maskL es) with
  | true => exact (h1.1 h2).symm
  | false =>
    cases h3 : es.all fun e => L.testBit e with
    | true => rw [h1.2 h3] at h2; cases h2
    | false => rfl
def freeB (ops : Array Oper) (M : List Nat) (i : Nat) (o : Oper) : Bool := match o.dst with
  | none => true
  | some d => (List.range ops.size).all fun j => j == i || match ops[j]? with
    | some q => !((q.looksAt ops).contains d) || (M.getD j 0).testBit i
    | none => true
structure En where
  i : Nat
  o : Oper
  em : Nat
  fr : Bool
def infoAt (ops : Array Oper) (M : List Nat) (i : Nat) : Option En := (ops[i]?).map fun o => ⟨i, o, maskL (edgesOf o), freeB ops M i o⟩
def infoL (ops : Array Oper) (M : List Nat) : List En := (List.range ops.size).filterMap (infoAt ops M)
def rdyE (L : Nat) (x : En) : Bool := Nat.beq (Nat.land x.em L) x.em
structure Inv (ops : Array Oper) (M : List Nat) (listed : Array Bool) (un : List En) (L : Nat) : Prop where
  un : un = (infoL ops M).filter fun x => !(listed.getD x.i true)
  size : listed.size = ops.size
  bits : ∀ i, L.testBit i = listed.getD i false
theorem infoAt_some {ops : Array Oper} {M : List Nat} {i : Nat} {x : En} (h : infoAt ops M i = some x) : x.i = i ∧ ops[i]? = some x.o ∧ x.em = maskL (edgesOf x.o) ∧ x.fr = freeB ops M i x.o := by
  unfold infoAt at h
  cases ho : ops[i]? with
  | none => rw [ho] at h; cases h
  | some o => rw [ho] at h; cases h; exact ⟨rfl, rfl, rfl, rfl⟩
theorem filter_info {α β : Type} {g : α → Option β} {r : α → Bool} {p : β → Bool} {fst : β → α} : ∀ (l : List α), (∀ a ∈ l, match g a with | some x => r a = p x ∧ fst x = a | none => r a = false) → l.filter r = ((l.filterMap g).filter p).map fst
  | [], _ => rfl
  | a :: l, h => by
    have ha := h a List.mem_cons_self
    have ih := filter_info l fun b hb => h b (List.mem_cons_of_mem _ hb)
    cases hg : g a with
    | none =>
      rw [hg] at ha
      rw [List.filter_cons, List.filterMap_cons, hg]
      simp only at ha
      simp only [ha, Bool.false_eq_true, if_false]
      exact ih
    | some x =>
      rw [hg] at ha
      simp only at ha
      rw [List.filter_cons, List.filterMap_cons, hg]
      simp only
      rw [List.filter_cons, ha.1]
      cases p x with
      | true => simp only [if_true, List.map_cons, ha.2, ih]
      | false => simp only [Bool.false_eq_true, if_false, ih]
theorem Inv.ready {ops : Array Oper} {M : List Nat} {listed : Array Bool} {un : List En} {L : Nat} (h : Inv ops M listed un L) : Region.ready .any ops listed = (un.filter (rdyE L)).map (·.i) := by
  rw [h.un, List.filter_filter]
  unfold infoL Region.ready
  refine filter_info _ fun i hi => ?_
  cases hx : infoAt ops M i with
  | none =>
    unfold infoAt at hx
    cases ho : ops[i]? with
    | none => simp
    | some o => rw [ho] at hx; cases hx
  | some x =>
    obtain ⟨h1, h2, h3, _⟩ := infoAt_some hx
    simp only
    refine ⟨?_, h1⟩
    rw [h2, h1]
    simp only [Option.map_some, Option.getD_some]
    unfold rdyE
    rw [h3, land_mask, Bool.and_comm]
    congr 1
    rw [Bool.eq_iff_iff, List.all_eq_true, Array.all_eq_true_iff_forall_mem]
    constructor
    · intro hA e he
      obtain ⟨y, hy, hb, rfl⟩ := mem_edges.1 he
      have := hA y hy
      simp only [hb, Bool.not_true, Bool.false_or] at this
      rw [h.bits]; exact this
    · intro hA y hy
      cases hb : Region.binds .any y with
      | false => simp
      | true =>
        have := hA y.on (mem_edges.2 ⟨y, hy, hb, rfl⟩)
        rw [h.bits] at this
        simp [this]
def dropE (i : Nat) (un : List En) : List En := un.filter fun x => !(Nat.beq x.i i)
theorem Inv.set {ops : Array Oper} {M : List Nat} {listed : Array Bool} {un : List En} {L : Nat} (h : Inv ops M listed un L) {i : Nat} (hi : i < ops.size) : Inv ops M (listed.setIfInBounds i true) (dropE i un) (Nat.lor (1 <<< i) L) := by
  have hi' : i < listed.size := by rw [h.size]; exact hi
  refine ⟨?_, by simp [h.size], fun j => ?_⟩
  · unfold dropE
    rw [h.un, List.filter_filter]
    refine List.filter_congr fun x _ => ?_
    by_cases hx : x.i = i
    · subst hx
      simp [hi']
    · have : Nat.beq x.i i = false := by
        cases hb : Nat.beq x.i i with
        | false => rfl
        | true => exact absurd (Nat.eq_of_beq_eq_true hb) hx
      rw [this, getD_set_ne true (Ne.symm hx)]
      simp
  · rw [show Nat.lor (1 <<< i) L = 1 <<< i ||| L from rfl, Nat.testBit_or, Nat.one_shiftLeft, Nat.testBit_two_pow, h.bits]
    by_cases hij : i = j
    · subst hij; simp [hi']
    · rw [getD_set_ne false hij]; simp [hij]
variable (T) in
def pendOkT (ops : Array Oper) (pend : List (Nat × AV)) (f : TF) (h : Hp) : Bool := pend.all fun p => match ops[p.1]? with
  | none => false
  | some o => match lightT T ops h f o with
    | some r => avEq r p.2
    | none => false
theorem pendOkT_of {ops : Array Oper} {pend : List (Nat × AV)} {f : TF} {h : Hp} (hp : pendOkT T ops pend f h = true) : PendOk T ops pend f.abs h := fun p hm => by
  have := List.all_eq_true.1 hp p hm
  split at this
  · cases this
  · rename_i o ho
    rw [lightT_eq ho]
    split at this
    · rename_i r hr; rw [hr, avEq_ok this]
    · cases this
variable (T) in
def pickE (ops : Array Oper) (L : Nat) (h : Hp) (f : TF) : List En → Option (En × AV)
  | [] => none
  | x :: l => match x.fr && rdyE L x with
    | false => pickE ops L h f l
    | true => match lightT T ops h f x.o with
      | some r => some (x, r)
      | none => pickE ops L h f l
theorem pickE_ok {ops : Array Oper} {L : Nat} {h : Hp} {f : TF} {x : En} {r : AV} : ∀ {l : List En}, pickE T ops L h f l = some (x, r) → x ∈ l.filter (rdyE L) ∧ x.fr = true ∧ lightT T ops h f x.o = some r := by
  intro l
  induction l with
  | nil => intro hp; cases hp
  | cons y l ih =>
    intro hp
    have later : pickE T ops L h f l = some (x, r) → x ∈ (y :: l).filter (rdyE L) ∧ x.fr = true ∧ lightT T ops h f x.o = some r := fun h1 => by
      obtain ⟨h2, h3⟩ := ih h1
      refine ⟨?_, h3⟩
      rw [List.mem_filter] at *
      exact ⟨List.mem_cons_of_mem _ h2.1, h2.2⟩
    unfold pickE at hp
    split at hp
    · exact later hp
    · rename_i hb
      simp only [Bool.and_eq_true] at hb
      split at hp
      · rename_i r' hr
        simp only [Option.some.injEq, Prod.mk.injEq] at hp
        obtain ⟨rfl, rfl⟩ := hp
        exact ⟨List.mem_filter.2 ⟨List.mem_cons_self, hb.2⟩, hb.1, hr⟩
      · exact later hp
variable (T X call) in
def evDrawn2 (ops : Array Oper) (M : List Nat) : Nat → List (Nat × AV) → List En → Nat → TF → St → Option (List (TF × St))
  | 0, pend, un, L, f, st => match pendOkT T ops pend f st.h && (un.filter (rdyE L)).isEmpty with
    | true => some [(f, st)]
    | false => none
  | fuel + 1, pend, un, L, f, st =>
    match pickE T ops L st.h f un with
    | some (x, r) => evDrawn2 ops M fuel ((x.i, r) :: pend) (dropE x.i un) (Nat.lor (1 <<< x.i) L) (f.put x.o.dst r) st
    | none => match pendOkT T ops pend f st.h with
      | false => none
      | true => match un.filter (rdyE L) with
        | [] => some [(f, st)]
        | y :: ys => bindL (y :: ys) fun x => match lightT T ops st.h f x.o with
          | some r => evDrawn2 ops M fuel (dropP M x.i pend) (dropE x.i un) (Nat.lor (1 <<< x.i) L) (f.put x.o.dst r) st
          | none => match wantT ops f x.o with
            | true => match heavy T X call st f.av x.o with
              | some outs => bindL outs fun z => evDrawn2 ops M fuel (dropP M x.i pend) (dropE x.i un) (Nat.lor (1 <<< x.i) L) (f.put x.o.dst z.1) z.2
              | none => none
            | false => none
theorem Inv.mem {ops : Array Oper} {M : List Nat} {listed : Array Bool} {un : List En} {L : Nat} (h : Inv ops M listed un L) {x : En} (hx : x ∈ un.filter (rdyE L)) : x.i ∈ Region.ready .any ops listed ∧ ops[x.i]? = some x.o ∧ x.fr = freeB ops M x.i x.o := by
  refine ⟨by rw [h.ready]; exact List.mem_map_of_mem hx, ?_⟩
  have h1 := (List.mem_filter.1 hx).1
  rw [h.un] at h1
  have h2 := (List.mem_filter.1 h1).1
  unfold infoL at h2
  rw [List.mem_filterMap] at h2
  obtain ⟨i, _, h3⟩ := h2
  obtain ⟨h4, h5, _, h6⟩ := infoAt_some h3
  rw [h4]
  exact ⟨h5, h6⟩
theorem freeB_ok {ops : Array Oper} {M : List Nat} (hM : Tidy ops M) {listed : Array Bool} {pend : List (Nat × AV)} {i : Nat} {o : Oper} (ho : ops[i]? = some o) (hc : Closed ops listed) (hpl : PL pend listed) (hr : i ∈ Region.ready .any ops listed) (h : freeB ops M i o = true) :
    ∀ p ∈ pend, ∀ q, ops[p.1]? = some q → ∀ d, o.dst = some d → d ∉ q.looksAt ops := fun p hp q hq d hd hm => by
  unfold freeB at h
  rw [hd] at h
  obtain ⟨_, _, h0, _⟩ := ready_edges hr
  have h1 := List.all_eq_true.1 h p.1 (List.mem_range.2 (Array.getElem?_eq_some_iff.1 hq).1)
  simp only [hq, Bool.or_eq_true, beq_iff_eq, Bool.not_eq_true'] at h1
  rcases h1 with h1 | h1 | h1
  · have := hpl p hp
    rw [h1, listed_lt h0] at this; cases this
  · rw [List.contains_iff_mem.2 hm] at h1; cases h1
  · have := Closed.anc hM hc (Array.getElem?_eq_some_iff.1 ho).1 p.1 q hq (hc p.1 q hq (hpl p hp)) h1
    rw [listed_lt h0] at this; cases this
theorem evDrawn2_ok (hT : TOk P T) (hX : XOk P X) (hc : CallOk P call) {rd : Option Nat} {ops : Array Oper} {M : List Nat} (hM : Tidy ops M) {K : Fm → St → Prop} : ∀ (fuel : Nat) {pend : List (Nat × AV)} {listed : Array Bool} {un : List En} {L : Nat} {f : TF} {st : St} {outs : List (TF × St)},
    Inv ops M listed un L → Closed ops listed → PL pend listed → f.ok → evDrawn2 T X call ops M fuel pend un L f st = some outs → (∀ x ∈ outs, x.1.ok → K x.1.abs x.2) → AnyD P T ops M rd K fuel pend listed f.abs st
  | 0, pend, listed, un, L, f, st, outs, hi, hcl, hpl, hf, h, hk => by
    simp only [evDrawn2] at h
    split at h
    · rename_i hb
      simp only [Bool.and_eq_true, List.isEmpty_iff] at hb
      cases h
      exact AnyD.done (pendOkT_of hb.1) (by rw [hi.ready, hb.2]; rfl) (hk (f, st) (List.mem_singleton.2 rfl) hf) 0
    · cases h
  | fuel + 1, pend, listed, un, L, f, st, outs, hi, hcl, hpl, hf, h, hk => by
    simp only [evDrawn2] at h
    split at h
    · rename_i x r hp
      obtain ⟨h1, h2, h3⟩ := pickE_ok hp
      obtain ⟨h4, h5, h6⟩ := hi.mem h1
      have hlt := (Array.getElem?_eq_some_iff.1 h5).1
      refine AnyD.take hM hT h5 fuel hcl hpl (freeB_ok hM h5 hcl hpl h4 (by rw [← h6]; exact h2)) h4 (by rw [lightT_eq h5]; exact h3) ?_
      rw [← TF.abs_put hf]
      refine evDrawn2_ok hT hX hc hM fuel (hi.set hlt) (hcl.set h4) (fun p hm => ?_) (TF.put_ok hf _ _) h hk
      rcases List.mem_cons.1 hm with rfl | hm
      · have : x.i < listed.size := by rw [hi.size]; exact hlt
        simp [this]
      · exact getD_set_true (hpl p hm)
    · split at h
      · cases h
      · rename_i hb
        split at h
        · rename_i hq
          cases h
          exact AnyD.done (pendOkT_of hb) (by rw [hi.ready, hq]; rfl) (hk (f, st) (List.mem_singleton.2 rfl) hf) _
        · rename_i y ys hq
          refine AnyD.all (pendOkT_of hb) (hi.ready.trans (by rw [hq])) (by simp) fun j hj => ?_
          rw [List.mem_map] at hj
          obtain ⟨x, hx, rfl⟩ := hj
          obtain ⟨h4, h5, h6⟩ := hi.mem (by rw [hq]; exact hx)
          have hlt := (Array.getElem?_eq_some_iff.1 h5).1
          obtain ⟨os, h1, h2⟩ := bindL_ok h x hx
          have hpl' : PL (dropP M x.i pend) (listed.setIfInBounds x.i true) := fun p hm => getD_set_true (hpl p (List.mem_filter.1 hm).1)
          refine ⟨x.o, h5, ?_⟩
          split at h1
          · rename_i r hr
            refine OpsW.lightV hT h5 (by rw [lightT_eq h5]; exact hr) (.nil ⟨r, rfl, ?_⟩)
            rw [← TF.abs_put hf]
            exact evDrawn2_ok hT hX hc hM fuel (hi.set hlt) (hcl.set h4) hpl' (TF.put_ok hf _ _) h1 fun z hz => hk z (h2 z hz)
          · split at h1
            · rename_i hw
              split at h1
              · rename_i os2 hos
                rw [← TF.av_eq] at hos
                refine (heavy_ok hT hX hc h5 (by rw [wantT_eq]; exact hw) hos).mono fun f' st' ⟨v, hf', hm⟩ => ⟨v, hf', ?_⟩
                subst hf'
                obtain ⟨q, h7, h8⟩ := bindL_ok h1 (v, st') hm
                rw [← TF.abs_put hf]
                exact evDrawn2_ok hT hX hc hM fuel (hi.set hlt) (hcl.set h4) hpl' (TF.put_ok hf _ _) h7 fun z hz => hk z (h2 z (h8 z hz))
              · cases h1
            · cases h1
theorem Inv.start (ops : Array Oper) (M : List Nat) : Inv ops M (Array.replicate ops.size false) (infoL ops M) 0 := by
  refine ⟨?_, by simp, fun i => ?_⟩
  · symm
    rw [List.filter_eq_self]
    intro x hx
    unfold infoL at hx
    rw [List.mem_filterMap] at hx
    obtain ⟨i, h1, h2⟩ := hx
    rw [(infoAt_some h2).1]
    simp [List.mem_range.1 h1]
  · simp only [Nat.zero_testBit, Array.getD_eq_getD_getElem?, Array.getElem?_replicate]
    split <;> rfl
end
end Go.Ev
