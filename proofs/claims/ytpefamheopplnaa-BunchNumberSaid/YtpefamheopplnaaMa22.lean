/- Own work of the verifier of watercress: EvJ, EvK, EvL, EvM, EvN, EvO, EvR, EvW, EvZ. -/
import Derived.Test.YtpefamheopplnaaMa21
import Derived.Test.YtpefamheopplnaaMa20
set_option linter.unusedVariables false
set_option linter.unusedSimpArgs false
namespace Go.Ev
def bindL {α β : Type} : List α → (α → Option (List β)) → Option (List β)
  | [], _ => some []
  | a :: r, g => match g a with
    | none => none
    | some x => match bindL r g with
      | none => none
      | some y => some (x ++ y)
theorem bindL_ok {α β : Type} {g : α → Option (List β)} : ∀ {l : List α} {res : List β}, bindL l g = some res → ∀ a ∈ l, ∃ x, g a = some x ∧ ∀ b ∈ x, b ∈ res
  | [], _, _, a, ha => by cases ha
  | a0 :: r, res, h, a, ha => by
    simp only [bindL] at h
    split at h
    · cases h
    · rename_i x hx
      split at h
      · cases h
      · rename_i y hy
        cases h
        rcases List.mem_cons.1 ha with rfl | ha
        · exact ⟨x, hx, fun b hb => List.mem_append_left _ hb⟩
        · obtain ⟨x', h1, h2⟩ := bindL_ok hy a ha
          exact ⟨x', h1, fun b hb => List.mem_append_right _ (h2 b hb)⟩
def litEq : Value → Value → Bool
  | .bool a, .bool b => a == b
  | .int k a, .int j b => k == j && a == b
  | .pointer none, .pointer none => true
  | .slice none a b, .slice none c d => a == c && b == d
  | .map none, .map none => true
  | .nilFunc, .nilFunc => true
  | .pointer (some a), .pointer (some b) => a == b
  | .tuple a, .tuple b => Nat.beq a.size 0 && Nat.beq b.size 0
  | _, _ => false
theorem litEq_ok {a b : Value} (h : litEq a b = true) : a = b := by
  unfold litEq at h
  split at h
  case h_8 a b =>
    simp only [Bool.and_eq_true] at h
    rw [Array.eq_empty_of_size_eq_zero (Nat.eq_of_beq_eq_true h.1), Array.eq_empty_of_size_eq_zero (Nat.eq_of_beq_eq_true h.2)]
  all_goals simp_all
mutual
def avEq : AV → AV → Bool
  | .lit a, .lit b => litEq a b
  | .ptr a b, .ptr c d => a == c && b == d
  | .sl a b c d e, .sl a' b' c' d' e' => a == a' && b == b' && c == c' && d == d' && e == e'
  | .mp a, .mp b => a == b
  | .yld a, .yld b => a == b
  | .fn f a b, .fn g c d => f == g && avsEq a c && avsEq b d
  | .agg a, .agg b => avsEq a b
  | .tup a, .tup b => avsEq a b
  | _, _ => false
def avsEq : List AV → List AV → Bool
  | [], [] => true
  | a :: r, b :: s => avEq a b && avsEq r s
  | _, _ => false
end
mutual
theorem avEq_ok : ∀ {a b : AV}, avEq a b = true → a = b := by
  intro a b h
  unfold avEq at h
  split at h
  · rw [litEq_ok h]
  · simp_all
  · simp_all
  · simp_all
  · simp_all
  · simp only [Bool.and_eq_true, beq_iff_eq] at h
    rw [h.1.1, avsEq_ok h.1.2, avsEq_ok h.2]
  · rw [avsEq_ok h]
  · rw [avsEq_ok h]
  · cases h
theorem avsEq_ok : ∀ {a b : List AV}, avsEq a b = true → a = b := by
  intro a b h
  unfold avsEq at h
  split at h
  · rfl
  · simp only [Bool.and_eq_true] at h
    rw [avEq_ok h.1, avsEq_ok h.2]
  · cases h
end
def esEq : List (AV × AV × Nat) → List (AV × AV × Nat) → Bool
  | [], [] => true
  | x :: r, y :: s => avEq x.1 y.1 && avEq x.2.1 y.2.1 && Nat.beq x.2.2 y.2.2 && esEq r s
  | _, _ => false
theorem esEq_ok : ∀ {a b : List (AV × AV × Nat)}, esEq a b = true → a = b
  | [], [], _ => rfl
  | (k, v, n) :: r, (k', v', n') :: s, h => by
    simp only [esEq, Bool.and_eq_true] at h
    rw [avEq_ok h.1.1.1, avEq_ok h.1.1.2, Nat.eq_of_beq_eq_true h.1.2, esEq_ok h.2]
  | [], _ :: _, h => by cases h
  | _ :: _, [], h => by cases h
def objEq : AObj → AObj → Bool
  | .cells a b c, .cells d e f => a == d && b == e && avsEq c f
  | .dfr, .dfr => true
  | .map a c, .map b d => esEq a b && Nat.beq c d
  | .iter a b c d, .iter a' b' c' d' => Nat.beq a a' && Nat.beq b b' && c == c' && Nat.beq d d'
  | _, _ => false
theorem objEq_ok {a b : AObj} (h : objEq a b = true) : a = b := by
  unfold objEq at h
  split at h
  · simp only [Bool.and_eq_true, beq_iff_eq] at h
    rw [h.1.1, h.1.2, avsEq_ok h.2]
  · rfl
  · simp only [Bool.and_eq_true] at h
    rw [esEq_ok h.1, Nat.eq_of_beq_eq_true h.2]
  · simp only [Bool.and_eq_true, beq_iff_eq] at h
    rw [Nat.eq_of_beq_eq_true h.1.1.1, Nat.eq_of_beq_eq_true h.1.1.2, h.1.2, Nat.eq_of_beq_eq_true h.2]
  · cases h
def hpEq : Hp → Hp → Bool
  | [], [] => true
  | (i, o) :: r, (j, p) :: s => i == j && objEq o p && hpEq r s
  | _, _ => false
theorem hpEq_ok : ∀ {a b : Hp}, hpEq a b = true → a = b
  | [], [], _ => rfl
  | (i, o) :: r, (j, p) :: s, h => by
    simp only [hpEq, Bool.and_eq_true, beq_iff_eq] at h
    rw [h.1.1, objEq_ok h.1.2, hpEq_ok h.2]
  | [], _ :: _, h => by cases h
  | _ :: _, [], h => by cases h
def stEq (a b : St) : Bool := a.n == b.n && hpEq a.h b.h
theorem stEq_ok {a b : St} (h : stEq a b = true) : a = b := by
  simp only [stEq, Bool.and_eq_true, beq_iff_eq] at h
  cases a; cases b; simp only at h; rw [h.1, hpEq_ok h.2]
def dedup : List (AV × St) → List (AV × St)
  | [] => []
  | [x] => [x]
  | x :: r => let r' := dedup r; if r'.any fun y => avEq x.1 y.1 && stEq x.2 y.2 then r' else x :: r'
theorem mem_dedup : ∀ {l : List (AV × St)} {x : AV × St}, x ∈ l → x ∈ dedup l
  | [y], x, h => h
  | y :: z :: r, x, h => by
    simp only [dedup]
    split
    · rename_i hany
      rcases List.mem_cons.1 h with rfl | h
      · rw [List.any_eq_true] at hany
        obtain ⟨y, hy, he⟩ := hany
        simp only [Bool.and_eq_true] at he
        have h1 := avEq_ok he.1
        have h2 := stEq_ok he.2
        have : x = y := by cases x; cases y; simp only at h1 h2; rw [h1, h2]
        rw [this]; exact hy
      · exact mem_dedup h
    · rcases List.mem_cons.1 h with rfl | h
      · exact List.mem_cons_self
      · exact List.mem_cons_of_mem _ (mem_dedup h)
  | [], _, h => by cases h
end Go.Ev
namespace Go.Ev
def St.keep (st : St) (p : Nat → Bool) : St := ⟨st.h.filter fun x => p x.1, st.n⟩
theorem Hp.get_filter {p : Nat → Bool} : ∀ {h : Hp} {id : Nat} {o : AObj}, Hp.get (h.filter fun x => p x.1) id = some o → h.get id = some o
  | [], _, _, h => h
  | (i, x) :: r, id, o, h => by
    rw [List.filter_cons] at h
    by_cases hi : i = id
    · subst hi
      simp only [Hp.get, if_true]
      split at h
      · simpa only [Hp.get, if_true] using h
      · rename_i hp
        exfalso
        have : ∀ {r : Hp}, Hp.get (r.filter fun x => p x.1) i = none := fun {r} => by
          induction r with
          | nil => rfl
          | cons y r ih =>
            rw [List.filter_cons]
            split
            · rename_i hy
              have : ¬ y.1 = i := fun e => hp (by rw [← e]; exact hy)
              simp only [Hp.get, this, if_false, ih]
            · exact ih
        rw [this] at h; cases h
    · simp only [Hp.get, hi, if_false]
      refine Hp.get_filter (p := p) ?_
      split at h
      · simpa only [Hp.get, hi, if_false] using h
      · exact h
theorem Rel.keep {φ : Fi} {st : St} {w : World} (hr : Rel φ st w) (p : Nat → Bool) : Rel φ (st.keep p) w :=
  ⟨hr.n, fun id o h => hr.lt id o (Hp.get_filter h), fun id o h => hr.blk id o (Hp.get_filter h), fun id o h => hr.obj id o (Hp.get_filter h),
   fun i j oi oj hi hj => hr.sep i j oi oj (Hp.get_filter hi) (Hp.get_filter hj)⟩
theorem Fr.keep {φ φ' : Fi} {st st' : St} {w w' : World} (h : Fr φ st w φ' st' w') (p : Nat → Bool) : Fr φ st w φ' (st'.keep p) w' :=
  ⟨h.os, h.tape, h.output, h.size, h.block, fun k ⟨id, o, h1, h2⟩ => h.own k ⟨id, o, Hp.get_filter h1, h2⟩⟩
mutual
def avLt (n : Nat) : AV → Bool
  | .lit _ => true
  | .ptr i _ | .sl i _ _ _ _ | .mp i | .yld i => Nat.blt i n
  | .fn _ a b => avsLt n a && avsLt n b
  | .agg a | .tup a => avsLt n a
def avsLt (n : Nat) : List AV → Bool
  | [] => true
  | a :: r => avLt n a && avsLt n r
end
def objLt (n : Nat) : AObj → Bool
  | .cells _ _ cs => avsLt n cs
  | .map es _ => es.all fun x => avLt n x.1 && avLt n x.2.1
  | .iter mid _ _ _ => Nat.blt mid n
  | _ => true
section
variable (P : Program) (T : Ti) (G : FuncId → Option Func) (C : FuncId → List AV → St → Option (List (AV × St))) (X : St → (Operand → AV) → Oper → Option (List (AV × St)))
abbrev CallE := AV → List AV → St → Option (List (AV × St))
def CallOk (call : CallE) : Prop := ∀ c args st outs, call c args st = some outs → ApplyW P c args st (fun v st' => (v, st') ∈ outs)
def XOk : Prop := ∀ (rd : Option Nat) (ops : Array Oper) (i : Nat) (f : Fm) (st : St) (o : Oper) (outs : List (AV × St)), ops[i]? = some o → Region.wanted o (yA ops f.ts) = true → X st (Operand.av f.ts) o = some outs →
  OpsW P rd ops [i] (fun f' st' => ∃ v, f' = f.put o.dst v ∧ (v, st') ∈ outs) f st
def heavy (call : CallE) (st : St) (ρ : Operand → AV) (o : Oper) : Option (List (AV × St)) :=
  match o.op with
  | .alloc _ | .box _ _ | .buildSlice _ _ _ | .makeSlice _ _ _ => (evF T st.n ρ o).map fun x => [(x.1, st.push (.cells none false x.2))]
  | .store _ _ _ => match storeO T st ρ o with
    | some s => some [(undA, s)]
    | none => X st ρ o
  | .call c => match c.callee with
    | .builtin .append => (appendO T st ρ o).map fun x => [x]
    | .value f => call (ρ f) (c.args.toList.map ρ) st
    | _ => X st ρ o
  | _ => X st ρ o
variable {P T G C X}
theorem heavy_ok (hT : TOk P T) (hX : XOk P X) {call : CallE} (hc : CallOk P call) {rd : Option Nat} {ops : Array Oper} {i : Nat} {f : Fm} {st : St} {o : Oper} {outs : List (AV × St)} (ho : ops[i]? = some o) (hw : Region.wanted o (yA ops f.ts) = true)
    (h : heavy T X call st (Operand.av f.ts) o = some outs) : OpsW P rd ops [i] (fun f' st' => ∃ v, f' = f.put o.dst v ∧ (v, st') ∈ outs) f st := by
  have hF : ∀ {outs}, (evF T st.n (Operand.av f.ts) o).map (fun x => [(x.1, st.push (.cells none false x.2))]) = some outs → OpsW P rd ops [i] (fun f' st' => ∃ v, f' = f.put o.dst v ∧ (v, st') ∈ outs) f st := fun {outs} h => by
    cases he : evF T st.n (Operand.av f.ts) o with
    | none => rw [he] at h; cases h
    | some x =>
      rw [he] at h
      simp only [Option.map_some, Option.some.injEq] at h
      subst h
      exact OpsW.fresh hT (r := x.1) (cs := x.2) ho hw he (.nil ⟨x.1, rfl, by simp⟩)
  unfold heavy at h
  split at h
  · exact hF h
  · exact hF h
  · exact hF h
  · exact hF h
  · cases he : storeO T st (Operand.av f.ts) o with
    | none => rw [he] at h; exact hX rd ops i f st o outs ho hw h
    | some x =>
      rw [he] at h
      simp only [Option.some.injEq] at h
      subst h
      exact OpsW.store hT ho hw he (.nil ⟨undA, rfl, by simp⟩)
  · rename_i c hx
    split at h
    · cases he : appendO T st (Operand.av f.ts) o with
      | none => rw [he] at h; cases h
      | some x =>
        rw [he] at h
        simp only [Option.map_some, Option.some.injEq] at h
        subst h
        exact OpsW.append hT (r := x.1) (st' := x.2) ho hw he (.nil ⟨x.1, rfl, by simp⟩)
    · rename_i fo hcal
      refine OpsW.call (c := Operand.av f.ts fo) (args := c.args.toList.map (Operand.av f.ts)) ho hw (by simp only [callO, hx, hcal]) ?_
      exact (hc _ _ _ _ h).mono fun v st' hm => .nil ⟨v, rfl, hm⟩
    · exact hX rd ops i f st o outs ho hw h
  · exact hX rd ops i f st o outs ho hw h
theorem OpsW.cons {rd : Option Nat} {ops : Array Oper} {i : Nat} {l : List Nat} {K : Fm → St → Prop} {f : Fm} {st : St} {o : Oper} (ho : ops[i]? = some o) (hnd : ∀ c, o.op ≠ .defer c) (h : OpsW P rd ops [i] (fun f' st' => OpsW P rd ops l K f' st') f st) : OpsW P rd ops (i :: l) K f st := by
  intro φ w a n Q h1 h2 h3 hQ
  have h4 := h φ w a n (fun e a' w' => e = .normal ∧ wpOpsIn (FW (rdB φ rd)) n P ops Q l a' w') h1 h2 h3 (fun a' w' hl => ⟨rfl, by
    obtain ⟨f', st', φ', hk, he, hrel, hact, hfr⟩ := hl
    have h6 := hk φ' w' a' n Q (fun id hi => Nat.lt_of_lt_of_le (h1 id hi) he.n) hrel hact (fun a2 w2 hl2 => hQ a2 w2 (hl2.trans he hfr))
    rwa [rdB_ext he h1] at h6⟩)
  rw [wpOpsIn_cons] at h4 ⊢
  exact wpOpIn_congr ho hnd rfl rfl (fun _ => rfl) (fun cv w' hk => hk.2) (fun d w' hk => hk.2) (fun e a w hne hk => absurd hk.1 hne) (fun hl => by obtain ⟨a, w, hn, _⟩ := hl; cases hn) h4
theorem plain_defer {o : Oper} (h : plainB o = true) (c : Call) : o.op ≠ .defer c := fun hc => by simp [plainB, hc] at h
def noLook (ops : Array Oper) (pend : List (Nat × AV)) (o : Oper) : Bool := match o.dst with
  | none => true
  | some d => pend.all fun p => match ops[p.1]? with
    | some q => !((q.looksAt ops).contains d)
    | none => true
theorem noLook_ok {ops : Array Oper} {pend : List (Nat × AV)} {oi : Oper} (h : noLook ops pend oi = true) : ∀ p ∈ pend, ∀ o, ops[p.1]? = some o → ∀ d, oi.dst = some d → d ∉ o.looksAt ops := fun p hp o ho d hd hm => by
  unfold noLook at h
  rw [hd] at h
  have h1 := List.all_eq_true.1 h p hp
  simp only [ho, Bool.not_eq_true'] at h1
  rw [List.contains_iff_mem.2 hm] at h1
  cases h1
end
end Go.Ev
namespace Go.Ev
def tidyC : Code → Bool
  | .region _ ops true => tidyB ops (masks ops)
  | .seq a b => tidyC a && tidyC b
  | .cond _ a b => tidyC a && tidyC b
  | .block _ c => tidyC c
  | .loop c => tidyC c
  | .scope c => tidyC c
  | .rangeFunc _ _ a b => tidyC a && tidyC b
  | _ => true
def jumpE : Code → Option Exit
  | .ret => some .ret
  | .exit e => some (.exit e)
  | _ => none
section
variable (T : Ti) (X : St → (Operand → AV) → Oper → Option (List (AV × St))) (call : CallE) (L : Nat)
end
section
variable {P : Program} {T : Ti} {X : St → (Operand → AV) → Oper → Option (List (AV × St))} {call : CallE} {L : Nat}
end
def readyB : LoopState → Bool
  | .ready => true
  | _ => false
section
variable (T : Ti) (X : St → (Operand → AV) → Oper → Option (List (AV × St))) (L : Nat) (G : FuncId → Option Func) (C : FuncId → List AV → St → Option (List (AV × St)))
end
section
variable {P : Program} {T : Ti} {X : St → (Operand → AV) → Oper → Option (List (AV × St))} {L : Nat} {G : FuncId → Option Func} {C : FuncId → List AV → St → Option (List (AV × St))}
variable (P G) in
def GOk : Prop := ∀ g fn, G g = some fn → P.funcs[g]? = some fn ∧ Enters P g ∧ ∀ b, fn.body = some b → tidyC b = true
variable (P C) in
def COk : Prop := ∀ g args st outs, C g args st = some outs → Enters P g ∧ CallW P g args st (fun v st' => (v, st') ∈ outs)
end
end Go.Ev
namespace Go.Ev
def tab (P : Program) (t : TypeId) : Option TI :=
  match P.underlying t, P.info? t with
  | some d, some ti => match ti.zero with
    | some z => some { desc := d, size := ti.size, bytes := ti.bytes, zero := z.cells.toList, flat := !(P.stoodInHeld t) && !(P.eqGuardType P.depth t) }
    | none => none
  | _, _ => none
theorem tab_ok (P : Program) : TOk P (tab P) := fun t i h => by
  unfold tab at h
  split at h
  · rename_i d ti hd hti
    split at h
    · rename_i z hz
      cases h
      exact ⟨hd, ⟨ti, z, hti, rfl, rfl, hz, rfl⟩, fun hf => by simpa using hf⟩
    · cases h
  · cases h
def ofTab (l : List (Option TI)) : Ti := fun t => (l[t]?).getD none
theorem ofTab_ok {P : Program} {l : List (Option TI)} {n : Nat} (h : l = (List.range n).map (tab P)) : TOk P (ofTab l) := fun t i hi => by
  refine tab_ok P t i ?_
  unfold ofTab at hi
  subst h
  rw [List.getElem?_map] at hi
  cases hr : (List.range n)[t]? with
  | none => rw [hr] at hi; cases hi
  | some x =>
    rw [hr] at hi
    have : x = t := by
      obtain ⟨hx, he⟩ := List.getElem?_eq_some_iff.1 hr
      simpa using he.symm
    subst this
    exact hi
def ofFns (l : List (FuncId × Func)) (g : FuncId) : Option Func :=
  match l with
  | [] => none
  | (i, f) :: r => if Nat.beq i g then some f else ofFns r g
def fnsB (P : Program) : List (FuncId × Func) → Prop
  | [] => True
  | (i, f) :: r => (P.funcs[i]? = some f ∧ Enters P i ∧ (match f.body with | some b => tidyC b | none => true) = true) ∧ fnsB P r
theorem ofFns_ok {P : Program} : ∀ {l : List (FuncId × Func)}, fnsB P l → GOk P (ofFns l)
  | [], _, g, fn, h => by cases h
  | (i, f) :: r, hb, g, fn, h => by
    simp only [ofFns] at h
    split at h
    · rename_i hi
      cases h
      have : i = g := Nat.eq_of_beq_eq_true hi
      subst this
      refine ⟨hb.1.1, hb.1.2.1, fun b hbb => ?_⟩
      have := hb.1.2.2
      rw [hbb] at this
      exact this
    · exact ofFns_ok hb.2 g fn h
end Go.Ev
namespace Go.Ev
inductive Tr where
  | nil
  | node (v : AV) (l r : Tr)
def Tr.get : Tr → Nat → AV
  | .nil, _ => undA
  | .node v l r, i => match Nat.beq i 0 with
    | true => v
    | false => match Nat.beq (i % 2) 1 with
      | true => l.get (i / 2)
      | false => r.get (i / 2 - 1)
def Tr.set : Nat → Tr → Nat → AV → Tr
  | 0, t, _, _ => t
  | n + 1, .nil, i, x => match Nat.beq i 0 with
    | true => .node x .nil .nil
    | false => match Nat.beq (i % 2) 1 with
      | true => .node undA (Tr.set n .nil (i / 2) x) .nil
      | false => .node undA .nil (Tr.set n .nil (i / 2 - 1) x)
  | n + 1, .node v l r, i, x => match Nat.beq i 0 with
    | true => .node x l r
    | false => match Nat.beq (i % 2) 1 with
      | true => .node v (Tr.set n l (i / 2) x) r
      | false => .node v l (Tr.set n r (i / 2 - 1) x)
theorem Tr.get_set : ∀ (n : Nat) (t : Tr) (i j : Nat) (x : AV), i + 1 < 2 ^ n → (Tr.set n t i x).get j = if j = i then x else t.get j := by
  intro n
  induction n with
  | zero => intro t i j x h; simp at h
  | succ n ih =>
    intro t i j x h
    have hp : 2 ^ (n + 1) = 2 * 2 ^ n := by rw [Nat.pow_succ]; omega
    rw [hp] at h
    have key : ∀ (v : AV) (l r : Tr), (match Nat.beq i 0 with
        | true => Tr.node x l r
        | false => match Nat.beq (i % 2) 1 with
          | true => .node v (Tr.set n l (i / 2) x) r
          | false => .node v l (Tr.set n r (i / 2 - 1) x)).get j = if j = i then x else (Tr.node v l r).get j := by
      intro v l r
      cases hi : Nat.beq i 0 with
      | true =>
        have hi := Nat.eq_of_beq_eq_true hi
        subst hi
        simp only [Tr.get]
        cases hj : Nat.beq j 0 with
        | true => have hj := Nat.eq_of_beq_eq_true hj; subst hj; simp
        | false => have hj := Nat.ne_of_beq_eq_false hj; simp [hj]
      | false =>
        have hi := Nat.ne_of_beq_eq_false hi
        cases hm : Nat.beq (i % 2) 1 with
        | true =>
          have hm := Nat.eq_of_beq_eq_true hm
          simp only [Tr.get]
          cases hj : Nat.beq j 0 with
          | true => have hj := Nat.eq_of_beq_eq_true hj; subst hj; simp [Ne.symm hi]
          | false =>
            have hj := Nat.ne_of_beq_eq_false hj
            cases hq : Nat.beq (j % 2) 1 with
            | true =>
              have hq := Nat.eq_of_beq_eq_true hq
              simp only
              rw [ih _ _ _ _ (by omega)]
              by_cases hji : j = i
              · simp [hji]
              · rw [if_neg (by omega), if_neg hji]
            | false =>
              have hq := Nat.ne_of_beq_eq_false hq
              simp only
              rw [if_neg (by intro e; subst e; exact hq hm)]
        | false =>
          have hm := Nat.ne_of_beq_eq_false hm
          simp only [Tr.get]
          cases hj : Nat.beq j 0 with
          | true => have hj := Nat.eq_of_beq_eq_true hj; subst hj; simp [Ne.symm hi]
          | false =>
            have hj := Nat.ne_of_beq_eq_false hj
            cases hq : Nat.beq (j % 2) 1 with
            | true =>
              have hq := Nat.eq_of_beq_eq_true hq
              simp only
              rw [if_neg (by intro e; subst e; exact hm hq)]
            | false =>
              have hq := Nat.ne_of_beq_eq_false hq
              simp only
              rw [ih _ _ _ _ (by omega)]
              by_cases hji : j = i
              · simp [hji]
              · rw [if_neg (by omega), if_neg hji]
    cases t with
    | nil =>
      have h0 : ∀ j, (Tr.node undA .nil .nil).get j = Tr.nil.get j := fun j => by
        by_cases h1 : Nat.beq j 0 = true <;> by_cases h2 : Nat.beq (j % 2) 1 = true <;> simp only [Tr.get, h1, h2]
      have := key undA .nil .nil
      rw [h0] at this
      exact this
    | node v l r => exact key v l r
structure TF where
  t : Tr
  len : Nat
  dm : List Nat
def TF.abs (f : TF) : Fm := ⟨(List.range f.len).map f.t.get, f.dm⟩
def bigT : Nat := 1048575
def TF.put (f : TF) (dst : Option Tmp) (v : AV) : TF :=
  match dst with
  | none => f
  | some d => match Nat.blt d f.len with
    | true => ⟨Tr.set 20 f.t d v, f.len, f.dm⟩
    | false => f
def TF.ok (f : TF) : Prop := f.len ≤ bigT
theorem TF.put_len (f : TF) (dst : Option Tmp) (v : AV) : (f.put dst v).len = f.len := by
  unfold TF.put
  cases dst with
  | none => rfl
  | some d => simp only; split <;> rfl
theorem TF.put_ok {f : TF} (h : f.ok) (dst : Option Tmp) (v : AV) : (f.put dst v).ok := by unfold TF.ok; rw [TF.put_len]; exact h
theorem TF.abs_put {f : TF} (h : f.ok) (dst : Option Tmp) (v : AV) : (f.put dst v).abs = f.abs.put dst v := by
  cases dst with
  | none => rfl
  | some d =>
    unfold TF.put
    simp only
    cases hd : Nat.blt d f.len with
    | true =>
      have hd : d < f.len := Nat.le_of_ble_eq_true hd
      simp only [TF.abs, Fm.put]
      congr 1
      apply List.ext_getElem
      · simp
      · intro i h1 h2
        simp only [List.length_map, List.length_range] at h1
        rw [List.getElem_map, List.getElem_range, Tr.get_set 20 f.t d i v (Nat.lt_of_lt_of_le (Nat.succ_lt_succ hd) (by unfold TF.ok bigT at h; omega)), List.getElem_set]
        by_cases hi : i = d
        · subst hi; simp
        · rw [if_neg hi, if_neg (Ne.symm hi)]; simp
    | false =>
      have hd : ¬ d < f.len := fun hlt => by
        have : Nat.blt d f.len = true := Nat.ble_eq_true_of_le hlt
        rw [this] at hd; cases hd
      simp only [TF.abs, Fm.put]
      congr 1
      exact (List.set_eq_of_length_le (by simpa using hd)).symm
def TF.at (f : TF) (d : Nat) : AV := match Nat.blt d f.len with
  | true => f.t.get d
  | false => undA
theorem TF.at_eq (f : TF) (d : Nat) : f.abs.ts.getD d undA = f.at d := by
  unfold TF.at TF.abs
  cases hd : Nat.blt d f.len with
  | true =>
    have hd : d < f.len := Nat.le_of_ble_eq_true hd
    simp [List.getD_eq_getElem?_getD, hd]
  | false =>
    have hd : ¬ d < f.len := fun hlt => by
      have : Nat.blt d f.len = true := Nat.ble_eq_true_of_le hlt
      rw [this] at hd; cases hd
    simp only [List.getD_eq_getElem?_getD]
    rw [List.getElem?_eq_none (by simpa using hd)]
    rfl
def TF.av (f : TF) : Operand → AV
  | .tmp t => f.at t
  | .const v => ofV v
  | .global g => .lit (.pointer (some ⟨g, 0, none⟩))
  | .func g => .fn (.func g) [] []
theorem TF.av_eq (f : TF) : Operand.av f.abs.ts = f.av := by
  funext x
  cases x with
  | tmp t => exact f.at_eq t
  | _ => rfl
def TF.y (ops : Array Oper) (f : TF) (j : Nat) : Option Bool :=
  match (ops[j]?).bind (·.dst) with
  | none => none
  | some d => match Nat.blt d f.len with
    | true => match f.t.get d with
      | .lit (.bool b) => some b
      | _ => none
    | false => none
theorem TF.y_eq (ops : Array Oper) (f : TF) : yA ops f.abs.ts = f.y ops := by
  funext j
  unfold yA TF.y
  cases hd : (ops[j]?).bind (·.dst) with
  | none => rfl
  | some d =>
    simp only [Option.bind_some]
    cases hb : Nat.blt d f.len with
    | true =>
      have hlt : d < f.len := Nat.le_of_ble_eq_true hb
      have : f.abs.ts[d]? = some (f.t.get d) := by simp [TF.abs, hlt]
      rw [this]
      simp only
      split
      · rename_i b hq; simp only [Option.some.injEq] at hq; rw [hq]
      · rename_i hq
        split
        · rename_i b hq2; exact absurd (by rw [hq2]) (hq b)
        · rfl
    | false =>
      have hlt : ¬ d < f.len := fun hlt => by
        have : Nat.blt d f.len = true := Nat.ble_eq_true_of_le hlt
        rw [this] at hb; cases hb
      have : f.abs.ts[d]? = none := List.getElem?_eq_none (by simpa [TF.abs] using hlt)
      rw [this]
def Tr.fill : Nat → List AV → Tr → Tr
  | _, [], t => t
  | i, v :: l, t => Tr.fill (i + 1) l (Tr.set 20 t i v)
theorem Tr.get_fill : ∀ (l : List AV) (i : Nat) (t : Tr) (j : Nat), i + l.length ≤ bigT → (Tr.fill i l t).get j = if i ≤ j ∧ j < i + l.length then l.getD (j - i) undA else t.get j
  | [], i, t, j, _ => by
    rw [if_neg (by simp)]; rfl
  | v :: l, i, t, j, h => by
    simp only [List.length_cons] at h
    simp only [Tr.fill]
    rw [Tr.get_fill l (i + 1) _ j (by omega), Tr.get_set 20 t i j v (by unfold bigT at h; omega)]
    simp only [List.length_cons]
    by_cases hj : j = i
    · subst hj
      rw [if_neg (by omega), if_pos rfl, if_pos (by omega)]
      simp
    · by_cases h2 : i + 1 ≤ j ∧ j < i + 1 + l.length
      · rw [if_pos h2, if_pos (by omega)]
        have : j - i = (j - (i + 1)) + 1 := by omega
        rw [this]; simp
      · rw [if_neg h2, if_neg hj, if_neg (by omega)]
def TF.of (l : List AV) (n : Nat) : TF := ⟨Tr.fill 0 l .nil, max l.length n, []⟩
theorem TF.abs_of {l : List AV} {n : Nat} (h : max l.length n ≤ bigT) : (TF.of l n).abs = ⟨l ++ List.replicate (n - l.length) undA, []⟩ := by
  unfold TF.of TF.abs
  simp only
  congr 1
  apply List.ext_getElem
  · simp; omega
  · intro i h1 h2
    simp only [List.length_map, List.length_range] at h1
    rw [List.getElem_map, List.getElem_range, Tr.get_fill l 0 .nil i (by omega)]
    by_cases hi : i < l.length
    · rw [if_pos (by omega), List.getElem_append_left hi]
      simp [List.getD_eq_getElem?_getD, hi]
    · rw [if_neg (by omega), List.getElem_append_right (by omega)]
      simp [Tr.get]
end Go.Ev
namespace Go.Ev
section
variable {P : Program} {T : Ti} {X : St → (Operand → AV) → Oper → Option (List (AV × St))} {call : CallE}
def wantT (ops : Array Oper) (f : TF) (o : Oper) : Bool := match o.guard with
  | none => true
  | some _ => Region.wanted o (f.y ops)
theorem wantT_eq (ops : Array Oper) (f : TF) (o : Oper) : Region.wanted o (yA ops f.abs.ts) = wantT ops f o := by
  rw [TF.y_eq]
  unfold wantT
  cases hg : o.guard with
  | none => unfold Region.wanted; rw [hg]
  | some g => rfl
variable (T) in
def lightT (ops : Array Oper) (h : Hp) (f : TF) (o : Oper) : Option AV := match wantT ops f o with
  | true => evG T h f.av o
  | false => some undA
theorem lightT_eq {ops : Array Oper} {h : Hp} {f : TF} {i : Nat} {o : Oper} (ho : ops[i]? = some o) : lightV T ops h f.abs i = lightT T ops h f o := by
  unfold lightV lightT
  simp only [ho, wantT_eq, TF.av_eq]
  cases wantT ops f o <;> rfl
variable (T X call) in
def evOps2 (ops : Array Oper) : List Oper → TF → St → Option (List (TF × St))
  | [], f, st => some [(f, st)]
  | o :: l, f, st => match lightT T ops st.h f o with
    | some r => evOps2 ops l (f.put o.dst r) st
    | none => match plainB o && wantT ops f o with
      | true => match heavy T X call st f.av o with
        | some outs => bindL outs fun x => evOps2 ops l (f.put o.dst x.1) x.2
        | none => none
      | false => none
theorem evOps2_ok (hT : TOk P T) (hX : XOk P X) (hc : CallOk P call) {rd : Option Nat} {ops : Array Oper} {K : Fm → St → Prop} : ∀ (l : List Oper) (i : Nat) {f : TF} {st : St} {outs : List (TF × St)}, f.ok → l = ops.toList.drop i → evOps2 T X call ops l f st = some outs → (∀ x ∈ outs, x.1.ok → K x.1.abs x.2) →
    OpsW P rd ops (List.range' i l.length) K f.abs st
  | [], i, f, st, outs, hf, hl, h, hk => by
    simp only [evOps2, Option.some.injEq] at h
    subst h
    exact .nil (hk (f, st) (List.mem_singleton.2 rfl) hf)
  | o :: l, i, f, st, outs, hf, hl, h, hk => by
    have ho : ops[i]? = some o := by
      have h1 : (ops.toList.drop i)[0]? = some o := by rw [← hl]; rfl
      rw [List.getElem?_drop] at h1
      simpa using h1
    have hl' : l = ops.toList.drop (i + 1) := by
      have h1 : (ops.toList.drop i).drop 1 = l := by rw [← hl]; rfl
      rw [← h1, List.drop_drop]
    rw [List.length_cons, List.range'_succ]
    simp only [evOps2] at h
    split at h
    · rename_i r hr
      rw [← lightT_eq ho] at hr
      refine OpsW.lightV hT ho hr ?_
      rw [← TF.abs_put hf]
      exact evOps2_ok hT hX hc l (i + 1) (TF.put_ok hf _ _) hl' h hk
    · split at h
      · rename_i hb
        simp only [Bool.and_eq_true] at hb
        split at h
        · rename_i os hos
          rw [← TF.av_eq] at hos
          refine OpsW.cons ho (plain_defer hb.1) ((heavy_ok hT hX hc ho (by rw [wantT_eq]; exact hb.2) hos).mono fun f' st' ⟨v, hf', hm⟩ => ?_)
          subst hf'
          obtain ⟨x, h1, h2⟩ := bindL_ok h (v, st') hm
          rw [← TF.abs_put hf]
          exact evOps2_ok hT hX hc l (i + 1) (TF.put_ok hf _ _) hl' h1 fun y hy => hk y (h2 y hy)
        · cases h
      · cases h
def maskL (es : List Nat) : Nat := es.foldr (fun e m => (1 <<< e) ||| m) 0
theorem testBit_maskL : ∀ (es : List Nat) (i : Nat), (maskL es).testBit i = decide (i ∈ es)
  | [], i => by simp [maskL]
  | e :: es, i => by
    have ih := testBit_maskL es i
    unfold maskL at *
    rw [List.foldr_cons, Nat.testBit_or, ih, Nat.one_shiftLeft, Nat.testBit_two_pow]
    by_cases h : e = i
    · subst h; simp
    · by_cases h2 : i ∈ es <;> simp [h, h2, Ne.symm h]
theorem land_mask {es : List Nat} {L : Nat} : Nat.beq (Nat.land (maskL es) L) (maskL es) = es.all fun e => L.testBit e := by
  have h1 : Nat.beq (Nat.land (maskL es) L) (maskL es) = true ↔ (es.all fun e => L.testBit e) = true := by
    rw [show (Nat.beq (Nat.land (maskL es) L) (maskL es) = true) = (Nat.land (maskL es) L = maskL es) from propext ⟨Nat.eq_of_beq_eq_true, fun h => by rw [h]; exact Nat.beq_refl _⟩, List.all_eq_true]
    constructor
    · intro h e he
      have : (Nat.land (maskL es) L).testBit e = (maskL es).testBit e := by rw [h]
      rw [show Nat.land (maskL es) L = maskL es &&& L from rfl, Nat.testBit_and, testBit_maskL] at this
      simpa [he] using this
    · intro h
      apply Nat.eq_of_testBit_eq
      intro i
      rw [show Nat.land (maskL es) L = maskL es &&& L from rfl, Nat.testBit_and, testBit_maskL]
      by_cases hi : i ∈ es
      · simp [hi, h i hi]
      · simp [hi]
  cases h2 : Nat.beq (Nat.land (maskL es) L) (maskL es) with
  | true => exact (h1.1 h2).symm
  | false =>
    cases h3 : es.all fun e => L.testBit e with
    | true => rw [h1.2 h3] at h2; cases h2
    | false => rfl
def freeB (ops : Array Oper) (M : List Nat) (i : Nat) (o : Oper) : Bool := match o.dst with
  | none => true
  | some d => (List.range ops.size).all fun j => j == i || match ops[j]? with
    | some q => !((q.looksAt ops).contains d) || (M.getD j 0).testBit i
    | none => true
structure En where
  i : Nat
  o : Oper
  em : Nat
  fr : Bool
def infoAt (ops : Array Oper) (M : List Nat) (i : Nat) : Option En := (ops[i]?).map fun o => ⟨i, o, maskL (edgesOf o), freeB ops M i o⟩
def infoL (ops : Array Oper) (M : List Nat) : List En := (List.range ops.size).filterMap (infoAt ops M)
def rdyE (L : Nat) (x : En) : Bool := Nat.beq (Nat.land x.em L) x.em
structure Inv (ops : Array Oper) (M : List Nat) (listed : Array Bool) (un : List En) (L : Nat) : Prop where
  un : un = (infoL ops M).filter fun x => !(listed.getD x.i true)
  size : listed.size = ops.size
  bits : ∀ i, L.testBit i = listed.getD i false
theorem infoAt_some {ops : Array Oper} {M : List Nat} {i : Nat} {x : En} (h : infoAt ops M i = some x) : x.i = i ∧ ops[i]? = some x.o ∧ x.em = maskL (edgesOf x.o) ∧ x.fr = freeB ops M i x.o := by
  unfold infoAt at h
  cases ho : ops[i]? with
  | none => rw [ho] at h; cases h
  | some o => rw [ho] at h; cases h; exact ⟨rfl, rfl, rfl, rfl⟩
theorem filter_info {α β : Type} {g : α → Option β} {r : α → Bool} {p : β → Bool} {fst : β → α} : ∀ (l : List α), (∀ a ∈ l, match g a with | some x => r a = p x ∧ fst x = a | none => r a = false) → l.filter r = ((l.filterMap g).filter p).map fst
  | [], _ => rfl
  | a :: l, h => by
    have ha := h a List.mem_cons_self
    have ih := filter_info l fun b hb => h b (List.mem_cons_of_mem _ hb)
    cases hg : g a with
    | none =>
      rw [hg] at ha
      rw [List.filter_cons, List.filterMap_cons, hg]
      simp only at ha
      simp only [ha, Bool.false_eq_true, if_false]
      exact ih
    | some x =>
      rw [hg] at ha
      simp only at ha
      rw [List.filter_cons, List.filterMap_cons, hg]
      simp only
      rw [List.filter_cons, ha.1]
      cases p x with
      | true => simp only [if_true, List.map_cons, ha.2, ih]
      | false => simp only [Bool.false_eq_true, if_false, ih]
theorem Inv.ready {ops : Array Oper} {M : List Nat} {listed : Array Bool} {un : List En} {L : Nat} (h : Inv ops M listed un L) : Region.ready .any ops listed = (un.filter (rdyE L)).map (·.i) := by
  rw [h.un, List.filter_filter]
  unfold infoL Region.ready
  refine filter_info _ fun i hi => ?_
  cases hx : infoAt ops M i with
  | none =>
    unfold infoAt at hx
    cases ho : ops[i]? with
    | none => simp
    | some o => rw [ho] at hx; cases hx
  | some x =>
    obtain ⟨h1, h2, h3, _⟩ := infoAt_some hx
    simp only
    refine ⟨?_, h1⟩
    rw [h2, h1]
    simp only [Option.map_some, Option.getD_some]
    unfold rdyE
    rw [h3, land_mask, Bool.and_comm]
    congr 1
    rw [Bool.eq_iff_iff, List.all_eq_true, Array.all_eq_true_iff_forall_mem]
    constructor
    · intro hA e he
      obtain ⟨y, hy, hb, rfl⟩ := mem_edges.1 he
      have := hA y hy
      simp only [hb, Bool.not_true, Bool.false_or] at this
      rw [h.bits]; exact this
    · intro hA y hy
      cases hb : Region.binds .any y with
      | false => simp
      | true =>
        have := hA y.on (mem_edges.2 ⟨y, hy, hb, rfl⟩)
        rw [h.bits] at this
        simp [this]
def dropE (i : Nat) (un : List En) : List En := un.filter fun x => !(Nat.beq x.i i)
theorem Inv.set {ops : Array Oper} {M : List Nat} {listed : Array Bool} {un : List En} {L : Nat} (h : Inv ops M listed un L) {i : Nat} (hi : i < ops.size) : Inv ops M (listed.setIfInBounds i true) (dropE i un) (Nat.lor (1 <<< i) L) := by
  have hi' : i < listed.size := by rw [h.size]; exact hi
  refine ⟨?_, by simp [h.size], fun j => ?_⟩
  · unfold dropE
    rw [h.un, List.filter_filter]
    refine List.filter_congr fun x _ => ?_
    by_cases hx : x.i = i
    · subst hx
      simp [hi']
    · have : Nat.beq x.i i = false := by
        cases hb : Nat.beq x.i i with
        | false => rfl
        | true => exact absurd (Nat.eq_of_beq_eq_true hb) hx
      rw [this, getD_set_ne true (Ne.symm hx)]
      simp
  · rw [show Nat.lor (1 <<< i) L = 1 <<< i ||| L from rfl, Nat.testBit_or, Nat.one_shiftLeft, Nat.testBit_two_pow, h.bits]
    by_cases hij : i = j
    · subst hij; simp [hi']
    · rw [getD_set_ne false hij]; simp [hij]
variable (T) in
def pendOkT (ops : Array Oper) (pend : List (Nat × AV)) (f : TF) (h : Hp) : Bool := pend.all fun p => match ops[p.1]? with
  | none => false
  | some o => match lightT T ops h f o with
    | some r => avEq r p.2
    | none => false
theorem pendOkT_of {ops : Array Oper} {pend : List (Nat × AV)} {f : TF} {h : Hp} (hp : pendOkT T ops pend f h = true) : PendOk T ops pend f.abs h := fun p hm => by
  have := List.all_eq_true.1 hp p hm
  split at this
  · cases this
  · rename_i o ho
    rw [lightT_eq ho]
    split at this
    · rename_i r hr; rw [hr, avEq_ok this]
    · cases this
variable (T) in
def pickE (ops : Array Oper) (L : Nat) (h : Hp) (f : TF) : List En → Option (En × AV)
  | [] => none
  | x :: l => match x.fr && rdyE L x with
    | false => pickE ops L h f l
    | true => match lightT T ops h f x.o with
      | some r => some (x, r)
      | none => pickE ops L h f l
theorem pickE_ok {ops : Array Oper} {L : Nat} {h : Hp} {f : TF} {x : En} {r : AV} : ∀ {l : List En}, pickE T ops L h f l = some (x, r) → x ∈ l.filter (rdyE L) ∧ x.fr = true ∧ lightT T ops h f x.o = some r := by
  intro l
  induction l with
  | nil => intro hp; cases hp
  | cons y l ih =>
    intro hp
    have later : pickE T ops L h f l = some (x, r) → x ∈ (y :: l).filter (rdyE L) ∧ x.fr = true ∧ lightT T ops h f x.o = some r := fun h1 => by
      obtain ⟨h2, h3⟩ := ih h1
      refine ⟨?_, h3⟩
      rw [List.mem_filter] at *
      exact ⟨List.mem_cons_of_mem _ h2.1, h2.2⟩
    unfold pickE at hp
    split at hp
    · exact later hp
    · rename_i hb
      simp only [Bool.and_eq_true] at hb
      split at hp
      · rename_i r' hr
        simp only [Option.some.injEq, Prod.mk.injEq] at hp
        obtain ⟨rfl, rfl⟩ := hp
        exact ⟨List.mem_filter.2 ⟨List.mem_cons_self, hb.2⟩, hb.1, hr⟩
      · exact later hp
variable (T X call) in
def evDrawn2 (ops : Array Oper) (M : List Nat) : Nat → List (Nat × AV) → List En → Nat → TF → St → Option (List (TF × St))
  | 0, pend, un, L, f, st => match pendOkT T ops pend f st.h && (un.filter (rdyE L)).isEmpty with
    | true => some [(f, st)]
    | false => none
  | fuel + 1, pend, un, L, f, st =>
    match pickE T ops L st.h f un with
    | some (x, r) => evDrawn2 ops M fuel ((x.i, r) :: pend) (dropE x.i un) (Nat.lor (1 <<< x.i) L) (f.put x.o.dst r) st
    | none => match pendOkT T ops pend f st.h with
      | false => none
      | true => match un.filter (rdyE L) with
        | [] => some [(f, st)]
        | y :: ys => bindL (y :: ys) fun x => match lightT T ops st.h f x.o with
          | some r => evDrawn2 ops M fuel (dropP M x.i pend) (dropE x.i un) (Nat.lor (1 <<< x.i) L) (f.put x.o.dst r) st
          | none => match wantT ops f x.o with
            | true => match heavy T X call st f.av x.o with
              | some outs => bindL outs fun z => evDrawn2 ops M fuel (dropP M x.i pend) (dropE x.i un) (Nat.lor (1 <<< x.i) L) (f.put x.o.dst z.1) z.2
              | none => none
            | false => none
theorem Inv.mem {ops : Array Oper} {M : List Nat} {listed : Array Bool} {un : List En} {L : Nat} (h : Inv ops M listed un L) {x : En} (hx : x ∈ un.filter (rdyE L)) : x.i ∈ Region.ready .any ops listed ∧ ops[x.i]? = some x.o ∧ x.fr = freeB ops M x.i x.o := by
  refine ⟨by rw [h.ready]; exact List.mem_map_of_mem hx, ?_⟩
  have h1 := (List.mem_filter.1 hx).1
  rw [h.un] at h1
  have h2 := (List.mem_filter.1 h1).1
  unfold infoL at h2
  rw [List.mem_filterMap] at h2
  obtain ⟨i, _, h3⟩ := h2
  obtain ⟨h4, h5, _, h6⟩ := infoAt_some h3
  rw [h4]
  exact ⟨h5, h6⟩
theorem freeB_ok {ops : Array Oper} {M : List Nat} (hM : Tidy ops M) {listed : Array Bool} {pend : List (Nat × AV)} {i : Nat} {o : Oper} (ho : ops[i]? = some o) (hc : Closed ops listed) (hpl : PL pend listed) (hr : i ∈ Region.ready .any ops listed) (h : freeB ops M i o = true) :
    ∀ p ∈ pend, ∀ q, ops[p.1]? = some q → ∀ d, o.dst = some d → d ∉ q.looksAt ops := fun p hp q hq d hd hm => by
  unfold freeB at h
  rw [hd] at h
  obtain ⟨_, _, h0, _⟩ := ready_edges hr
  have h1 := List.all_eq_true.1 h p.1 (List.mem_range.2 (Array.getElem?_eq_some_iff.1 hq).1)
  simp only [hq, Bool.or_eq_true, beq_iff_eq, Bool.not_eq_true'] at h1
  rcases h1 with h1 | h1 | h1
  · have := hpl p hp
    rw [h1, listed_lt h0] at this; cases this
  · rw [List.contains_iff_mem.2 hm] at h1; cases h1
  · have := Closed.anc hM hc (Array.getElem?_eq_some_iff.1 ho).1 p.1 q hq (hc p.1 q hq (hpl p hp)) h1
    rw [listed_lt h0] at this; cases this
theorem Inv.start (ops : Array Oper) (M : List Nat) : Inv ops M (Array.replicate ops.size false) (infoL ops M) 0 := by
  refine ⟨?_, by simp, fun i => ?_⟩
  · symm
    rw [List.filter_eq_self]
    intro x hx
    unfold infoL at hx
    rw [List.mem_filterMap] at hx
    obtain ⟨i, h1, h2⟩ := hx
    rw [(infoAt_some h2).1]
    simp [List.mem_range.1 h1]
  · simp only [Nat.zero_testBit, Array.getD_eq_getD_getElem?, Array.getElem?_replicate]
    split <;> rfl
end
end Go.Ev
namespace Go.Ev
mutual
def renV (ρ : Nat → Option Nat) : AV → Option AV
  | .lit v => some (.lit v)
  | .ptr i o => match ρ i with
    | some j => some (.ptr j o)
    | none => none
  | .sl i a b c d => match ρ i with
    | some j => some (.sl j a b c d)
    | none => none
  | .mp i => match ρ i with
    | some j => some (.mp j)
    | none => none
  | .yld i => match ρ i with
    | some j => some (.yld j)
    | none => none
  | .fn f a b => match renL ρ a, renL ρ b with
    | some a', some b' => some (.fn f a' b')
    | _, _ => none
  | .agg a => match renL ρ a with
    | some a' => some (.agg a')
    | none => none
  | .tup a => match renL ρ a with
    | some a' => some (.tup a')
    | none => none
def renL (ρ : Nat → Option Nat) : List AV → Option (List AV)
  | [] => some []
  | a :: r => match renV ρ a with
    | none => none
    | some a' => match renL ρ r with
      | some r' => some (a' :: r')
      | none => none
end
def RenOk (ρ : Nat → Option Nat) (φ φ' : Fi) : Prop := ∀ i j, ρ i = some j → i < φ.n → φ'.f j = φ.f i ∧ j < φ'.n
mutual
theorem renV_ok {ρ : Nat → Option Nat} {φ φ' : Fi} (hρ : RenOk ρ φ φ') : ∀ {a a' : AV} {u : Value}, renV ρ a = some a' → VR φ a u → VR φ' a' u := by
  intro a a' u h hv
  unfold renV at h
  split at h
  · cases h; obtain rfl := hv.lit_inv; exact .lit _
  · split at h
    · rename_i j hj
      cases h
      obtain ⟨rfl, hi⟩ := hv.ptr_inv
      obtain ⟨h1, h2⟩ := hρ _ _ hj hi
      rw [← h1]; exact .ptr j _ h2
    · cases h
  · split at h
    · rename_i j hj
      cases h
      obtain ⟨cap, rfl, hi, h3, h4, h5⟩ := hv.sl_inv
      obtain ⟨h1, h2⟩ := hρ _ _ hj hi
      rw [← h1] at h5 ⊢
      exact .sl j _ _ _ _ cap h2 h3 h4 h5
    · cases h
  · split at h
    · rename_i j hj
      cases h
      obtain ⟨rfl, hi⟩ := hv.mp_inv
      obtain ⟨h1, h2⟩ := hρ _ _ hj hi
      rw [← h1]; exact .mp j h2
    · cases h
  · split at h
    · rename_i j hj
      cases h
      obtain ⟨rfl, hi⟩ := hv.yld_inv
      obtain ⟨h1, h2⟩ := hρ _ _ hj hi
      rw [← h1]; exact .yld j h2
    · cases h
  · rename_i f a b
    split at h
    · rename_i a' b' ha hb
      cases h
      obtain ⟨us, vs, rfl, h1, h2⟩ := hv.fn_inv
      exact .fn f (renL_ok hρ ha h1) (renL_ok hρ hb h2)
    · cases h
  · split at h
    · rename_i a' ha
      cases h
      obtain ⟨us, rfl, h1⟩ := hv.agg_inv
      exact .agg (renL_ok hρ ha h1)
    · cases h
  · split at h
    · rename_i a' ha
      cases h
      obtain ⟨us, rfl, h1⟩ := hv.tup_inv
      exact .tup (renL_ok hρ ha h1)
    · cases h
theorem renL_ok {ρ : Nat → Option Nat} {φ φ' : Fi} (hρ : RenOk ρ φ φ') : ∀ {a a' : List AV} {u : List Value}, renL ρ a = some a' → VRL φ a u → VRL φ' a' u := by
  intro a a' u h hv
  unfold renL at h
  split at h
  · cases h; cases hv; exact .nil
  · split at h
    · cases h
    · rename_i x hx
      split at h
      · rename_i r hr
        cases h
        cases hv with
        | cons h1 h2 => exact .cons (renV_ok hρ hx h1) (renL_ok hρ hr h2)
      · cases h
end
theorem renL_get {ρ : Nat → Option Nat} : ∀ {a a' : List AV} {i : Nat} {x' : AV}, renL ρ a = some a' → a'[i]? = some x' → ∃ x, a[i]? = some x ∧ renV ρ x = some x'
  | [], a', i, x', h, hx => by simp only [renL, Option.some.injEq] at h; subst h; simp at hx
  | y :: r, a', i, x', h, hx => by
    simp only [renL] at h
    split at h
    · cases h
    · rename_i y' hy
      split at h
      · rename_i r' hr
        cases h
        cases i with
        | zero => simp only [List.getElem?_cons_zero, Option.some.injEq] at hx ⊢; subst hx; exact ⟨y, rfl, hy⟩
        | succ i => rw [List.getElem?_cons_succ] at hx ⊢; exact renL_get hr hx
      · cases h
theorem renL_len {ρ : Nat → Option Nat} : ∀ {a a' : List AV}, renL ρ a = some a' → a'.length = a.length
  | [], a', h => by simp only [renL, Option.some.injEq] at h; subst h; rfl
  | y :: r, a', h => by
    simp only [renL] at h
    split at h
    · cases h
    · split at h
      · rename_i r' hr; cases h; simp [renL_len hr]
      · cases h
def renEs (ρ : Nat → Option Nat) : List (AV × AV × Nat) → Option (List (AV × AV × Nat))
  | [] => some []
  | x :: r => match renV ρ x.1, renV ρ x.2.1, renEs ρ r with
    | some a, some b, some r' => some ((a, b, x.2.2) :: r')
    | _, _, _ => none
theorem renEs_get {ρ : Nat → Option Nat} : ∀ {a a' : List (AV × AV × Nat)}, renEs ρ a = some a' → a'.length = a.length ∧ ∀ (i : Nat) (x' : AV × AV × Nat), a'[i]? = some x' → ∃ x, a[i]? = some x ∧ renV ρ x.1 = some x'.1 ∧ renV ρ x.2.1 = some x'.2.1 ∧ x'.2.2 = x.2.2
  | [], a', h => by simp only [renEs, Option.some.injEq] at h; subst h; exact ⟨rfl, fun i x hx => by simp at hx⟩
  | y :: r, a', h => by
    simp only [renEs] at h
    split at h
    · rename_i a b r' h1 h2 h3
      cases h
      obtain ⟨k1, k2⟩ := renEs_get h3
      refine ⟨by simp [k1], fun i x hx => ?_⟩
      cases i with
      | zero => simp only [List.getElem?_cons_zero, Option.some.injEq] at hx ⊢; subst hx; exact ⟨y, rfl, h1, h2, rfl⟩
      | succ i => rw [List.getElem?_cons_succ] at hx ⊢; exact k2 i x hx
    · cases h
def renO (ρ : Nat → Option Nat) : AObj → Option AObj
  | .cells none ro cs => match renL ρ cs with
    | some cs' => some (.cells none ro cs')
    | none => none
  | .cells (some g) ro cs => match ρ g, renL ρ cs with
    | some g', some cs' => some (.cells (some g') ro cs')
    | _, _ => none
  | .loop r => match renL ρ r.tmps, ρ r.dfid with
    | some ts, some d => some (.loop { r with tmps := ts, dfid := d })
    | _, _ => none
  | .dfr => some .dfr
  | .map es c => match renEs ρ es with
    | some es' => some (.map es' c)
    | none => none
  | .iter mid a b c => match ρ mid with
    | some m => some (.iter m a b c)
    | none => none
theorem renO_own {ρ : Nat → Option Nat} {o o' : AObj} (h : renO ρ o = some o') : o'.own = o.own := by
  unfold renO at h
  split at h <;> (try split at h) <;> cases h <;> rfl
theorem renO_fam {ρ : Nat → Option Nat} {o o' : AObj} (h : renO ρ o = some o') {g : Nat} (hg : o.fam = some g) : ρ g = o'.fam ∧ (ρ g).isSome := by
  unfold renO at h
  split at h <;> (try split at h) <;> cases h <;> simp_all [AObj.fam]
theorem renO_ok {ρ : Nat → Option Nat} {φ φ' : Fi} (hρ : RenOk ρ φ φ') {w : World} {i j : Nat} (hij : φ'.f j = φ.f i) {o o' : AObj} (h : renO ρ o = some o') (ho : ObjR φ w i o) : ObjR φ' w j o' := by
  have cells : ∀ {fm fm' : Option Nat} {ro : Bool} {cs cs' : List AV}, renL ρ cs = some cs' → ObjR φ w i (.cells fm ro cs) → ObjR φ' w j (.cells fm' ro cs') := fun {fm fm' ro cs cs'} hc h1 => by
    refine ⟨fun k a ha => ?_, fun hro => ?_⟩
    · obtain ⟨x, hx, hr⟩ := renL_get hc ha
      obtain ⟨v, hv, hr2⟩ := h1.1 k x hx
      exact ⟨v, by rw [hij]; exact hv, renV_ok hρ hr hr2⟩
    · obtain ⟨c, t, k1, k2, k3⟩ := h1.2 hro
      exact ⟨c, t, by rw [hij]; exact k1, by rw [hij]; exact k2, by rw [hij, renL_len hc]; exact k3⟩
  unfold renO at h
  split at h
  · split at h
    · rename_i hc; cases h; exact cells hc ho
    · cases h
  · split at h
    · rename_i _ hc; cases h; exact cells hc ho
    · cases h
  · split at h
    · rename_i ts d h1 h2
      cases h
      obtain ⟨L, g1, g2, g3, g4, g5, g6, g7, g8, g9⟩ := ho
      obtain ⟨k1, k2⟩ := hρ _ _ h2 g8
      exact ⟨L, by rw [hij]; exact g1, g2, g3, renL_ok hρ h1 g4, g5, g6, g7, k2, by rw [k1]; exact g9⟩
    · cases h
  · cases h; show _ = _; rw [hij]; exact ho
  · split at h
    · rename_i es' hes
      cases h
      obtain ⟨ces, h1, h2, h3⟩ := ho
      obtain ⟨k1, k2⟩ := renEs_get hes
      refine ⟨ces, by rw [hij]; exact h1, by rw [h2, k1], fun q x hx => ?_⟩
      obtain ⟨y, m1, m2, m3, m4⟩ := k2 q x hx
      obtain ⟨e, n1, n2, n3, n4⟩ := h3 q y m1
      exact ⟨e, n1, renV_ok hρ m2 n2, renV_ok hρ m3 n3, by rw [n4, m4]⟩
    · cases h
  · split at h
    · rename_i m hm
      cases h
      obtain ⟨h1, h2, h3⟩ := ho
      obtain ⟨k1, k2⟩ := hρ _ _ hm h3
      exact ⟨by rw [hij, k1]; exact h1, by rw [hij]; exact h2, k2⟩
    · cases h
def posOf (i : Nat) : Nat → List Nat → Option Nat
  | _, [] => none
  | k, x :: r => if Nat.beq x i then some k else posOf i (k + 1) r
theorem posOf_some {i : Nat} : ∀ {l : List Nat} {k j : Nat}, posOf i k l = some j → ∃ idx, j = k + idx ∧ l[idx]? = some i
  | x :: r, k, j, h => by
    simp only [posOf] at h
    split at h
    · rename_i hb
      cases h
      exact ⟨0, rfl, by rw [Nat.eq_of_beq_eq_true hb]; rfl⟩
    · obtain ⟨idx, h1, h2⟩ := posOf_some h
      exact ⟨idx + 1, by omega, by rw [List.getElem?_cons_succ]; exact h2⟩
  | [], k, j, h => by cases h
def rho (n0 : Nat) (ord : List Nat) (i : Nat) : Option Nat := if Nat.blt i n0 then some i else posOf i n0 ord
def phi (n0 : Nat) (ord : List Nat) (φ : Fi) : Fi := ⟨fun j => if j < n0 then φ.f j else φ.f (ord.getD (j - n0) 0), n0 + ord.length⟩
theorem phi_old {n0 : Nat} {ord : List Nat} {φ : Fi} {j : Nat} (h : j < n0) : (phi n0 ord φ).f j = φ.f j := if_pos h
theorem phi_new {n0 : Nat} {ord : List Nat} {φ : Fi} {idx i : Nat} (h : ord[idx]? = some i) : (phi n0 ord φ).f (n0 + idx) = φ.f i := by
  unfold phi
  simp only
  rw [if_neg (by omega)]
  congr 1
  rw [Nat.add_sub_cancel_left, List.getD_eq_getElem?_getD, h]; rfl
theorem rho_ok (n0 : Nat) (ord : List Nat) (φ : Fi) : RenOk (rho n0 ord) φ (phi n0 ord φ) := by
  intro i j h _
  unfold rho at h
  split at h
  · rename_i hb
    cases h
    have hb : i < n0 := Nat.le_of_ble_eq_true hb
    exact ⟨phi_old hb, by unfold phi; simp only; omega⟩
  · obtain ⟨idx, rfl, h2⟩ := posOf_some h
    have := (List.getElem?_eq_some_iff.1 h2).1
    exact ⟨phi_new h2, by unfold phi; simp only; omega⟩
def renOld (ρ : Nat → Option Nat) (n0 : Nat) : Hp → Option Hp
  | [] => some []
  | x :: r => match Nat.blt x.1 n0 with
    | false => renOld ρ n0 r
    | true => match renO ρ x.2 with
      | none => none
      | some o => match renOld ρ n0 r with
        | some r' => some ((x.1, o) :: r')
        | none => none
def renNew (ρ : Nat → Option Nat) (h : Hp) : Nat → List Nat → Option Hp
  | _, [] => some []
  | k, i :: l => match h.get i with
    | none => none
    | some o => match renO ρ o with
      | none => none
      | some o' => match renNew ρ h (k + 1) l with
        | some r => some ((k, o') :: r)
        | none => none
theorem renOld_get {ρ : Nat → Option Nat} {n0 : Nat} : ∀ {h h' : Hp} {j : Nat} {x : AObj}, renOld ρ n0 h = some h' → h'.get j = some x → j < n0 ∧ ∃ o, h.get j = some o ∧ renO ρ o = some x
  | [], h', j, x, hr, hx => by simp only [renOld, Option.some.injEq] at hr; subst hr; cases hx
  | (i, y) :: r, h', j, x, hr, hx => by
    simp only [renOld] at hr
    split at hr
    · rename_i hb
      obtain ⟨h1, o, h2, h3⟩ := renOld_get hr hx
      have : ¬ i = j := fun e => by
        subst e
        have : Nat.blt i n0 = true := Nat.ble_eq_true_of_le h1
        rw [this] at hb; cases hb
      exact ⟨h1, o, by simp only [Hp.get, this, if_false]; exact h2, h3⟩
    · rename_i hb
      have hb : i < n0 := Nat.le_of_ble_eq_true hb
      split at hr
      · cases hr
      · rename_i o ho
        split at hr
        · rename_i r' hr'
          cases hr
          by_cases hij : i = j
          · subst hij
            simp only [Hp.get, if_true, Option.some.injEq] at hx ⊢
            subst hx
            exact ⟨hb, y, rfl, ho⟩
          · simp only [Hp.get, hij, if_false] at hx ⊢
            exact renOld_get hr' hx
        · cases hr
theorem renNew_get {ρ : Nat → Option Nat} {h : Hp} : ∀ {l : List Nat} {k : Nat} {h' : Hp} {j : Nat} {x : AObj}, renNew ρ h k l = some h' → h'.get j = some x → ∃ idx i o, j = k + idx ∧ l[idx]? = some i ∧ h.get i = some o ∧ renO ρ o = some x
  | [], k, h', j, x, hr, hx => by simp only [renNew, Option.some.injEq] at hr; subst hr; cases hx
  | i :: l, k, h', j, x, hr, hx => by
    simp only [renNew] at hr
    split at hr
    · cases hr
    · rename_i o ho
      split at hr
      · cases hr
      · rename_i o' ho'
        split at hr
        · rename_i r hr'
          cases hr
          by_cases hj : k = j
          · subst hj
            simp only [Hp.get, if_true, Option.some.injEq] at hx
            subst hx
            exact ⟨0, i, o, rfl, rfl, ho, ho'⟩
          · simp only [Hp.get, hj, if_false] at hx
            obtain ⟨idx, i2, o2, h1, h2, h3⟩ := renNew_get hr' hx
            exact ⟨idx + 1, i2, o2, by omega, by rw [List.getElem?_cons_succ]; exact h2, h3⟩
        · cases hr
theorem Hp.get_append {j : Nat} {x : AObj} : ∀ {a b : Hp}, Hp.get (a ++ b) j = some x → Hp.get a j = some x ∨ Hp.get b j = some x
  | [], b, h => .inr h
  | (i, y) :: r, b, h => by
    by_cases hij : i = j
    · simp only [List.cons_append, Hp.get, hij, if_true] at h ⊢; exact .inl h
    · simp only [List.cons_append, Hp.get, hij, if_false] at h ⊢; exact Hp.get_append h
theorem renSt_ok {n0 : Nat} {ord : List Nat} {φ : Fi} {st : St} {w : World} {a b : Hp} (hr : Rel φ st w) (hn : ord.Nodup) (hge : ∀ i ∈ ord, n0 ≤ i) (ha : renOld (rho n0 ord) n0 st.h = some a) (hb : renNew (rho n0 ord) st.h n0 ord = some b) :
    Rel (phi n0 ord φ) ⟨b ++ a, n0 + ord.length⟩ w ∧ ∀ k, Owns (phi n0 ord φ) ⟨b ++ a, n0 + ord.length⟩ k → Owns φ st k := by
  have hρ := rho_ok n0 ord φ
  have orig : ∀ j x, Hp.get (b ++ a) j = some x → ∃ i o, st.h.get i = some o ∧ renO (rho n0 ord) o = some x ∧ (phi n0 ord φ).f j = φ.f i ∧ j < n0 + ord.length ∧ ((j < n0 ∧ i = j) ∨ ∃ idx, j = n0 + idx ∧ ord[idx]? = some i) := fun j x hx => by
    rcases Hp.get_append hx with h | h
    · obtain ⟨idx, i, o, h1, h2, h3, h4⟩ := renNew_get hb h
      have := (List.getElem?_eq_some_iff.1 h2).1
      subst h1
      exact ⟨i, o, h3, h4, phi_new h2, by omega, .inr ⟨idx, rfl, h2⟩⟩
    · obtain ⟨h1, o, h2, h3⟩ := renOld_get ha h
      exact ⟨j, o, h2, h3, phi_old h1, by omega, .inl ⟨h1, rfl⟩⟩
  refine ⟨⟨rfl, fun j x hx => ?_, fun j x hx => ?_, fun j x hx => ?_, fun j1 j2 x1 x2 h1 h2 hne hown hbb => ?_⟩, fun k ⟨j, x, hx, hown, hk⟩ => ?_⟩
  · obtain ⟨i, o, _, _, _, h, _⟩ := orig j x hx; exact h
  · obtain ⟨i, o, h1, _, h3, _⟩ := orig j x hx; rw [h3]; exact hr.blk i o h1
  · obtain ⟨i, o, h1, h2, h3, _⟩ := orig j x hx; exact renO_ok hρ h3 h2 (hr.obj i o h1)
  · obtain ⟨i1, o1, k1, k2, k3, _, k5⟩ := orig j1 x1 h1
    obtain ⟨i2, o2, m1, m2, m3, _, m5⟩ := orig j2 x2 h2
    have hii : i1 ≠ i2 := fun e => by
      subst e
      rcases k5 with ⟨k6, rfl⟩ | ⟨a1, rfl, k6⟩
      · rcases m5 with ⟨_, m6⟩ | ⟨a2, rfl, m6⟩
        · exact hne m6
        · have := hge _ (List.mem_of_getElem? m6); omega
      · rcases m5 with ⟨m7, m6⟩ | ⟨a2, rfl, m6⟩
        · have := hge _ (List.mem_of_getElem? k6); omega
        · obtain ⟨q1, q2⟩ := List.getElem?_eq_some_iff.1 k6
          obtain ⟨q3, q4⟩ := List.getElem?_eq_some_iff.1 m6
          have := (List.getElem_inj hn).1 (q2.trans q4.symm)
          exact hne (by rw [this])
    rw [k3, m3] at hbb
    obtain ⟨⟨g, hg1, hg2⟩, s1, s2, s3⟩ := hr.sep i1 i2 o1 o2 k1 m1 hii (by rw [← renO_own k2]; exact hown) hbb
    obtain ⟨e1, e2⟩ := renO_fam k2 hg1
    obtain ⟨e3, _⟩ := renO_fam m2 hg2
    obtain ⟨g', hg'⟩ := Option.isSome_iff_exists.1 e2
    rw [hg'] at e1 e3
    exact ⟨⟨g', e1.symm, e3.symm⟩, by rw [renO_own m2]; exact s1, by rw [k3, m3]; exact s2, by rw [k3, m3]; exact s3⟩
  · obtain ⟨i, o, h1, h2, h3, _⟩ := orig j x hx
    exact ⟨i, o, h1, by rw [← renO_own h2]; exact hown, by rw [← h3]; exact hk⟩
mutual
def idsV : AV → List Nat
  | .lit _ => []
  | .ptr i _ | .sl i _ _ _ _ | .mp i | .yld i => [i]
  | .fn _ a b => idsL a ++ idsL b
  | .agg a | .tup a => idsL a
def idsL : List AV → List Nat
  | [] => []
  | a :: r => idsV a ++ idsL r
end
def idsO : AObj → List Nat
  | .cells none _ cs => idsL cs
  | .cells (some g) _ cs => idsL cs ++ [g]
  | .map es _ => es.flatMap fun x => idsV x.1 ++ idsV x.2.1
  | .iter mid _ _ _ => [mid]
  | _ => []
def reach (h : Hp) (n0 : Nat) : Nat → List Nat → List Nat → List Nat
  | 0, _, acc => acc
  | _ + 1, [], acc => acc
  | k + 1, i :: todo, acc => match Nat.blt i n0 || acc.contains i with
    | true => reach h n0 k todo acc
    | false => match h.get i with
      | some o => reach h n0 k (todo ++ idsO o) (acc ++ [i])
      | none => reach h n0 k todo acc
def canon (n0 : Nat) (v : AV) (st : St) : AV × St :=
  match Nat.beq st.n n0 with
  | true => (v, st)
  | false =>
    let ord := reach st.h n0 4000 (idsV v ++ (st.h.filter fun x => Nat.blt x.1 n0 && !(objLt n0 x.2)).flatMap fun x => idsO x.2) []
    match decide ord.Nodup && ord.all (Nat.ble n0) with
    | false => (v, st)
    | true => match renV (rho n0 ord) v, renOld (rho n0 ord) n0 st.h, renNew (rho n0 ord) st.h n0 ord with
      | some v', some a, some b => (v', ⟨b ++ a, n0 + ord.length⟩)
      | _, _, _ => (v, st)
end Go.Ev
namespace Go.Ev
section
variable {P : Program} {b : Frame} {a : Act} {k : List Item} {cs : List Frame} {w : World}
theorem stepR_scope {c : Code} : step P (lone (b.atR a (.code (.scope c) :: k)) cs w) = .next (lone (b.atR a (.code c :: .inScope c :: k)) cs w) :=
  step_lone_go (by simp [stepG, stepG.exec, Frame.atR])
theorem stepR_inScope {c : Code} : step P (lone (b.atR a (.inScope c :: k)) cs w) = .next (lone (b.atR a k) cs w) :=
  step_lone_go (by simp [stepG, stepG.exec, Frame.atR])
end
def scopeQ (Q : Exit → Fm → St → Prop) : Exit → Fm → St → Prop
  | .goto _, _, _ => False
  | e, f, st => Q e f st
theorem SW.scope {P : Program} {rd : Option Nat} {c : Code} {Q : Exit → Fm → St → Prop} {f : Fm} {st : St} (h : SW P rd c (scopeQ Q) f st) : SW P rd (.scope c) Q f st := by
  intro φ w a n h1 h2 h3 b k cs hro hb hr
  have h0 : (lone (b.atR a (.code (.scope c) :: k)) cs w).fenced P (FW (rdB φ rd)) := fenced_calm hb hr rfl
  obtain ⟨e, a₁, w₁, hq, harr⟩ := h φ w a n h1 h2 h3 b (.inScope c :: k) cs hro hb hr
  obtain ⟨f', st', φ', hk, r⟩ := hq
  cases e with
  | normal => exact ⟨.normal, a₁, w₁, ⟨f', st', φ', hk, r⟩, .head h0 stepR_scope (StepsIn.trans harr (.one (fenced_calm hb hr rfl) stepR_inScope))⟩
  | exit id =>
    have hx : exitTo id (.inScope c :: k) = exitTo id k := by simp [exitTo]
    exact ⟨.exit id, a₁, w₁, ⟨f', st', φ', hk, r⟩, fun k' hk => .head h0 stepR_scope (harr.1 k' (by rw [hx]; exact hk)),
      fun hr' hk => let ⟨k₁, h1, h2⟩ := harr.2 hr' (by rw [hx]; exact hk); ⟨k₁, h1, .head h0 stepR_scope h2⟩⟩
  | goto l => exact hk.elim
  | ret => exact ⟨_, a₁, w₁, ⟨f', st', φ', hk, r⟩, .of_steps (.one h0 stepR_scope) harr⟩
  | panic ch => exact ⟨_, a₁, w₁, ⟨f', st', φ', hk, r⟩, .of_steps (.one h0 stepR_scope) harr⟩
  | outgrown => exact ⟨_, a₁, w₁, ⟨f', st', φ', hk, r⟩, .of_steps (.one h0 stepR_scope) harr⟩
end Go.Ev
namespace Go.Ev
section
variable {P : Program}
theorem SW.relabel {rd : Option Nat} {c : Code} {Q Q' : Exit → Fm → St → Prop} {f : Fm} {st : St} (h : SW P rd c Q f st)
    (hq : ∀ e f' st', Q e f' st' → Q' e f' st' ∨ ∃ (ord : List Nat) (ts' : List AV) (a b : Hp), ord.Nodup ∧ (∀ i ∈ ord, st.n ≤ i) ∧ (∀ d ∈ f'.dm, d < st.n) ∧ renL (rho st.n ord) f'.ts = some ts' ∧
      renOld (rho st.n ord) st.n st'.h = some a ∧ renNew (rho st.n ord) st'.h st.n ord = some b ∧ Q' e ⟨ts', f'.dm⟩ ⟨b ++ a, st.n + ord.length⟩) : SW P rd c Q' f st := by
  intro φ w a n h1 h2 h3
  refine wpIn_mono (h φ w a n h1 h2 h3) fun e a' w' hl => ?_
  obtain ⟨f', st', φ', hk, hex, hrel, hact, hfr⟩ := hl
  rcases hq e f' st' hk with hk | ⟨ord, ts', ha, hb, k1, k2, k3, k4, k5, k6, k7⟩
  · exact ⟨f', st', φ', hk, hex, hrel, hact, hfr⟩
  · obtain ⟨m1, m2⟩ := renSt_ok hrel k1 k2 k5 k6
    refine ⟨_, _, phi st.n ord φ', k7, ⟨?_, fun id hid => ?_⟩, m1, ⟨renL_ok (rho_ok st.n ord φ') k4 hact.ts, ?_, fun id hid => ?_⟩, ⟨hfr.os, hfr.tape, hfr.output, hfr.size, hfr.block, fun k hk => hfr.own k (m2 k hk)⟩⟩
    · rw [h2.n]; unfold phi; simp only; omega
    · rw [phi_old (by rw [← h2.n]; exact hid)]; exact hex.f id hid
    · rw [hact.dm]
      exact List.map_congr_left fun id hid => by rw [phi_old (k3 id hid)]
    · have := k3 id hid; unfold phi; simp only; omega
def canonF (n0 : Nat) (x : TF × St) : TF × St :=
  match Nat.beq x.2.n n0 with
  | true => x
  | false =>
    let ts := x.1.abs.ts
    let ord := reach x.2.h n0 4000 (idsL ts ++ (x.2.h.filter fun y => Nat.blt y.1 n0 && !(objLt n0 y.2)).flatMap fun y => idsO y.2) []
    match (decide ord.Nodup && ord.all (Nat.ble n0)) && (x.1.dm.all fun d => Nat.blt d n0) with
    | false => x
    | true => match renL (rho n0 ord) ts, renOld (rho n0 ord) n0 x.2.h, renNew (rho n0 ord) x.2.h n0 ord with
      | some ts', some a, some b => ({ TF.of ts' 0 with dm := x.1.dm }, ⟨b ++ a, n0 + ord.length⟩)
      | _, _, _ => x
theorem canonF_ok {n0 : Nat} {x : TF × St} (hx : x.1.ok) : (canonF n0 x).1.ok ∧ (canonF n0 x = x ∨ ∃ (ord : List Nat) (ts' : List AV) (a b : Hp), ord.Nodup ∧ (∀ i ∈ ord, n0 ≤ i) ∧ (∀ d ∈ x.1.abs.dm, d < n0) ∧ renL (rho n0 ord) x.1.abs.ts = some ts' ∧
      renOld (rho n0 ord) n0 x.2.h = some a ∧ renNew (rho n0 ord) x.2.h n0 ord = some b ∧ (canonF n0 x).1.abs = ⟨ts', x.1.abs.dm⟩ ∧ (canonF n0 x).2 = ⟨b ++ a, n0 + ord.length⟩) := by
  unfold canonF
  split
  · exact ⟨hx, .inl rfl⟩
  · simp only
    generalize reach x.2.h n0 4000 _ [] = ord
    split
    · exact ⟨hx, .inl rfl⟩
    · rename_i hc
      simp only [Bool.and_eq_true, decide_eq_true_eq, List.all_eq_true] at hc
      split
      · rename_i ts' a b h1 h2 h3
        have hlen : ts'.length = x.1.len := by rw [renL_len h1]; simp [TF.abs]
        have hbig : max ts'.length 0 ≤ bigT := by rw [hlen]; unfold TF.ok at hx; omega
        refine ⟨hbig, .inr ⟨ord, ts', a, b, hc.1.1, fun i hi => Nat.le_of_ble_eq_true (hc.1.2 i hi), fun d hd => Nat.le_of_ble_eq_true (hc.2 d hd), h1, h2, h3, ?_, rfl⟩⟩
        have := TF.abs_of hbig
        show (⟨(TF.of ts' 0).abs.ts, x.1.dm⟩ : Fm) = _
        rw [this]
        simp [TF.abs]
      · exact ⟨hx, .inl rfl⟩
def dedupF : List (TF × St) → List (TF × St)
  | [] => []
  | x :: r => let r' := dedupF r; if r'.any fun y => avsEq x.1.abs.ts y.1.abs.ts && (x.1.dm == y.1.dm) && stEq x.2 y.2 then r' else x :: r'
theorem mem_dedupF : ∀ {l : List (TF × St)} {x : TF × St}, x ∈ l → ∃ y ∈ dedupF l, y.1.abs = x.1.abs ∧ y.2 = x.2
  | z :: r, x, h => by
    simp only [dedupF]
    split
    · rename_i hany
      rcases List.mem_cons.1 h with rfl | h
      · rw [List.any_eq_true] at hany
        obtain ⟨y, hy, he⟩ := hany
        simp only [Bool.and_eq_true, beq_iff_eq] at he
        refine ⟨y, hy, ?_, (stEq_ok he.2).symm⟩
        have h1 := avsEq_ok he.1.1
        have h2 : y.1.abs.dm = x.1.abs.dm := he.1.2.symm
        generalize x.1.abs = A at h1 h2
        generalize y.1.abs = B at h1 h2
        cases A; cases B
        simp only at h1 h2
        rw [h1, h2]
      · exact mem_dedupF h
    · rcases List.mem_cons.1 h with rfl | h
      · exact ⟨x, List.mem_cons_self, rfl, rfl⟩
      · obtain ⟨y, h1, h2⟩ := mem_dedupF h
        exact ⟨y, List.mem_cons_of_mem _ h1, h2⟩
  | [], _, h => by cases h
theorem dedupF_sub : ∀ {l : List (TF × St)} {x : TF × St}, x ∈ dedupF l → x ∈ l
  | z :: r, x, h => by
    simp only [dedupF] at h
    split at h
    · exact List.mem_cons_of_mem _ (dedupF_sub h)
    · rcases List.mem_cons.1 h with rfl | h
      · exact List.mem_cons_self
      · exact List.mem_cons_of_mem _ (dedupF_sub h)
def mergeF (n0 : Nat) (l : List (TF × St)) : List (TF × St) := match l with
  | [] => []
  | [x] => [x]
  | l => dedupF (l.map (canonF n0))
theorem SW.merge {rd : Option Nat} {c : Code} {K : Exit → Fm → St → Prop} {f : Fm} {st : St} {l : List (TF × St)} (h : SW P rd c (fun e f' st' => e = .normal ∧ ∃ x ∈ l, x.1.ok ∧ f' = x.1.abs ∧ st' = x.2) f st)
    (hk : ∀ x ∈ mergeF st.n l, x.1.ok → K .normal x.1.abs x.2) : SW P rd c K f st := by
  by_cases hl : mergeF st.n l = dedupF (l.map (canonF st.n))
  · rw [hl] at hk
    refine h.relabel fun e f' st' ⟨he, x, hx, hok, hf, hs⟩ => ?_
    subst he; subst hf; subst hs
    obtain ⟨h1, h2⟩ := canonF_ok (n0 := st.n) hok
    obtain ⟨y, hy, hy1, hy2⟩ := mem_dedupF (List.mem_map_of_mem (f := canonF st.n) hx)
    have hyok : y.1.ok := by
      obtain ⟨z, hz, hzy⟩ := List.mem_map.1 (dedupF_sub hy)
      have hlen : y.1.abs.ts.length = (canonF st.n x).1.abs.ts.length := by rw [hy1]
      simp only [TF.abs, List.length_map, List.length_range] at hlen
      unfold TF.ok at *
      rw [hlen]; exact h1
    have hkk := hk y hy hyok
    rw [hy1, hy2] at hkk
    rcases h2 with h2 | ⟨ord, ts', a, b, k1, k2, k3, k4, k5, k6, k7, k8⟩
    · rw [h2] at hkk; exact .inl hkk
    · rw [k7, k8] at hkk
      exact .inr ⟨ord, ts', a, b, k1, k2, k3, k4, k5, k6, hkk⟩
  · have hsame : mergeF st.n l = l := by
      unfold mergeF at hl ⊢
      split
      · rfl
      · rfl
      · exact absurd (by split <;> first | rfl | simp_all) hl
    rw [hsame] at hk
    refine h.mono fun e f' st' ⟨he, x, hx, hok, hf, hs⟩ => ?_
    subst he; subst hf; subst hs
    exact hk x hx hok
end
end Go.Ev
