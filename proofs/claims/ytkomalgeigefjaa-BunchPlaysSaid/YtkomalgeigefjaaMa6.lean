/- Own work of the verifier of watercress: EvKc, EvKd, EvKe, EvKt, EvKu. -/
import Derived.Test.YtkomalgeigefjaaMa5
import Derived.Test.YtkomalgeigefjaaMa3
set_option linter.unusedVariables false
set_option linter.unusedSimpArgs false
namespace Go.Ev
section
variable {T : Ti}
theorem partK_eq {t : TypeId} {q : Option Nat} (h : partK T t = some q) (cs : List AV) (off : Nat) : partA T t cs off = match q with
    | some n => aggL n off cs
    | none => nthL cs off := by
  unfold partK at h
  unfold partA
  cases hi : T t with
  | none => rw [hi] at h; cases h
  | some i =>
    rw [hi] at h
    simp only at h ⊢
    by_cases ha : aggD i.desc = true
    · rw [if_pos ha] at h ⊢
      cases h
      simp only [aggL, lenL_eq, takeL_eq, dropL_eq]
      by_cases hb : off + i.size ≤ cs.length
      · rw [if_pos hb, Nat.ble_eq_true_of_le hb]
      · rw [if_neg hb]
        have : Nat.ble (off + i.size) cs.length = false := by
          cases hq : Nat.ble (off + i.size) cs.length with
          | false => rfl
          | true => exact absurd (Nat.le_of_ble_eq_true hq) hb
        rw [this]
    · rw [if_neg ha] at h ⊢
      cases h
      simp only [nthL_eq]
theorem fieldK_eq {s : TypeId} {f : Nat} {fd : Field} (h : fieldK T s f = some fd) : ∃ i fs, T s = some i ∧ i.desc = .struct fs ∧ fs[f]? = some fd := by
  unfold fieldK at h
  split at h
  · rename_i i hi
    split at h
    · rename_i fs hd
      exact ⟨i, fs, hi, hd, h⟩
    · cases h
  · cases h
theorem evG_evL {h : Hp} {ρ : Operand → AV} {o : Oper} (h1 : ∀ t x lo hi mx, o.op ≠ .slice t x lo hi mx) (h2 : ∀ t ps, o.op ≠ .build t ps) (h3 : ∀ op t x y yt, o.op ≠ .binOp op t x y yt) : evG T h ρ o = evL T h ρ o := by
  unfold evG
  split
  · rename_i hx; exact absurd hx (h1 _ _ _ _ _)
  · rename_i hx; exact absurd hx (h2 _ _)
  · rename_i hx; exact absurd hx (h3 _ _ _ _ _)
  · rename_i hx; exact absurd hx (h3 _ _ _ _ _)
  · rfl
theorem fill3_eq {pl : Nat → Option (Nat × Nat)} : ∀ {ps : List (Nat × Operand)} {r : List (Nat × Nat × Ar)}, compP pl ps = some r → ∀ (f : TF) (cs : List AV), fill3 f r cs = fillA pl cs (ps.map fun p => (p.1, f.av p.2))
  | [], r, h, f, cs => by cases h; rfl
  | p :: l, r, h, f, cs => by
    simp only [compP] at h
    split at h
    · rename_i q a r' hq ha hr
      cases h
      show (match Nat.beq (lenL (cellsF (a.ev f))) q.2 && Nat.ble (q.1 + q.2) (lenL cs) with
        | true => fill3 f r' (setsF (cellsF (a.ev f)) cs q.1)
        | false => none) = _
      simp only [List.map_cons, fillA, hq, lenL_eq, cellsF_eq, setsF_eq, compA_ok ha, fill3_eq hr]
      by_cases hc : (f.av p.2).cells.length ≠ q.2 ∨ q.1 + (f.av p.2).cells.length > cs.length
      · rw [if_pos hc]
        split
        · rename_i hb
          simp only [Bool.and_eq_true] at hb
          have h1 := Nat.eq_of_beq_eq_true hb.1
          have h2 := Nat.le_of_ble_eq_true hb.2
          omega
        · rfl
      · rw [if_neg hc]
        have h1 : (f.av p.2).cells.length = q.2 := by omega
        have h2 : q.1 + q.2 ≤ cs.length := by omega
        rw [h1, Nat.beq_refl, Nat.ble_eq_true_of_le h2]
        rfl
    · cases h
theorem buildK_eq {t : TypeId} {i : TI} {p : Nat × Operand} {l : List (Nat × Operand)} {r : List (Nat × Nat × Ar)} (hi : T t = some i) (h : compP (placeK T i) (p :: l) = some r) (f : TF) :
    buildA T t ((p :: l).map fun p => (p.1, f.av p.2)) = (fill3 f r (i.zero.map .lit)).map .agg := by
  rw [fill3_eq h]
  have hno : (placeK T i = fun _ => none) → False := fun hn => by
    rw [hn] at h
    simp [compP] at h
  unfold buildA
  simp only [hi]
  cases hd : i.desc with
  | struct fs =>
    simp only
    cases hp : placesA T fs.toList with
    | none => exact (hno (by unfold placeK; simp only [hd, hp])).elim
    | some places =>
      have : placeK T i = fun k => places[k]? := by unfold placeK; simp only [hd, hp]
      rw [this]
  | array n e =>
    simp only
    cases hp : T e with
    | none => exact (hno (by unfold placeK; simp only [hd, hp])).elim
    | some j =>
      have : placeK T i = fun k => some (k * j.size, j.size) := by unfold placeK; simp only [hd, hp]
      rw [this]
  | _ => exact (hno (by unfold placeK; simp only [hd])).elim
theorem runK_eq (ops : Array Oper) (h : Hp) (f : TF) (o : Oper) : runK T ops h f o (compU T o.op) = evG T h f.av o := by
  have gen : runK T ops h f o .gen = evG T h f.av o := rfl
  obtain ⟨dst, op, ty, pos, after, guard⟩ := o
  cases op with
  | move x =>
    simp only [compU]
    split
    · rename_i a ha
      rw [evG_evL (by simp) (by simp) (by simp)]
      simp only [runK, evL, compA_ok ha]
    · exact gen
  | assign x =>
    simp only [compU]
    split
    · rename_i a ha
      rw [evG_evL (by simp) (by simp) (by simp)]
      simp only [runK, evL, compA_ok ha]
    · exact gen
  | load t x =>
    simp only [compU]
    split
    · rename_i a n ha hp
      rw [evG_evL (by simp) (by simp) (by simp)]
      simp only [runK, evL, compA_ok ha, kLda, loadA]
      cases f.av x with
      | ptr id off =>
        simp only [cellL_eq]
        cases cellsAt h id with
        | none => rfl
        | some cs => simp only; rw [partK_eq hp]
      | _ => rfl
    · rename_i a ha hp
      rw [evG_evL (by simp) (by simp) (by simp)]
      simp only [runK, evL, compA_ok ha, kLd1, loadA]
      cases f.av x with
      | ptr id off =>
        simp only [cellL_eq]
        cases cellsAt h id with
        | none => rfl
        | some cs => simp only; rw [partK_eq hp]
      | _ => rfl
    · exact gen
  | fieldAddr s x fi =>
    simp only [compU]
    split
    · rename_i a fd ha hf
      split
      · rename_i j hj
        split
        · exact gen
        · rename_i hz
          obtain ⟨i, fs, h1, h2, h3⟩ := fieldK_eq hf
          have hz' : ¬ j.size = 0 := Nat.ne_of_beq_eq_false hz
          rw [evG_evL (by simp) (by simp) (by simp)]
          simp only [runK, evL, compA_ok ha, kFa]
          cases f.av x <;> simp [h1, h2, h3, hj, hz']
      · exact gen
    · exact gen
  | field s x fi =>
    simp only [compU]
    split
    · rename_i a fd ha hf
      obtain ⟨i, fs, h1, h2, h3⟩ := fieldK_eq hf
      split
      · rename_i n hp
        rw [evG_evL (by simp) (by simp) (by simp)]
        simp only [runK, evL, compA_ok ha, kFda]
        cases f.av x <;> simp [h1, h2, h3]
        rw [partK_eq hp]
      · rename_i hp
        rw [evG_evL (by simp) (by simp) (by simp)]
        simp only [runK, evL, compA_ok ha, kFd1]
        cases f.av x <;> simp [h1, h2, h3]
        rw [partK_eq hp]
      · exact gen
    · exact gen
  | indexAddr t x ix =>
    simp only [compU]
    split
    · rename_i a b i ha hb hi
      split
      · rename_i e hd
        split
        · rename_i j hj
          rw [evG_evL (by simp) (by simp) (by simp)]
          simp only [runK, evL, compA_ok ha, compA_ok hb]
          cases f.av ix with
          | lit v =>
            cases v with
            | int k n =>
              cases n with
              | ofNat n =>
                simp only [natI, kIxs]
                cases f.av x with
                | sl id off len sz ex =>
                  simp only [hi, hd, hj]
                  by_cases hc : n < len ∧ j.size = sz
                  · rw [if_pos ⟨Int.natCast_nonneg n, Int.ofNat_lt.2 hc.1, hc.2⟩, show Nat.blt n len = true from Nat.ble_eq_true_of_le hc.1, hc.2, Nat.beq_refl]
                    rfl
                  · rw [if_neg (fun hq => hc ⟨Int.ofNat_lt.1 hq.2.1, hq.2.2⟩)]
                    split
                    · rename_i hq
                      simp only [Bool.and_eq_true] at hq
                      exact absurd ⟨Nat.le_of_ble_eq_true hq.1, Nat.eq_of_beq_eq_true hq.2⟩ hc
                    · rfl
                | _ => simp only [hi, hd]
              | negSucc n =>
                simp only [natI]
                cases f.av x with
                | sl id off len sz ex => simp only [hi, hd, hj]; rw [if_neg (fun hq => by have := hq.1; exact absurd this (by simp))]
                | _ => simp only [hi, hd]
            | _ => simp only [natI, hi]
          | _ => simp only [natI, hi]
        · exact gen
      · rename_i len e hd
        split
        · rename_i j hj
          rw [evG_evL (by simp) (by simp) (by simp)]
          simp only [runK, evL, compA_ok ha, compA_ok hb]
          cases f.av ix with
          | lit v =>
            cases v with
            | int k n =>
              cases n with
              | ofNat n =>
                simp only [natI, kIxa]
                cases f.av x with
                | ptr id off =>
                  simp only [hi, hd, hj]
                  by_cases hc : n < len
                  · rw [if_pos ⟨Int.natCast_nonneg n, Int.ofNat_lt.2 hc⟩, show Nat.blt n len = true from Nat.ble_eq_true_of_le hc]
                    rfl
                  · rw [if_neg (fun hq => hc (Int.ofNat_lt.1 hq.2))]
                    split
                    · rename_i hq
                      exact absurd (Nat.le_of_ble_eq_true hq) hc
                    · rfl
                | _ => simp only [hi, hd]
              | negSucc n =>
                simp only [natI]
                cases f.av x with
                | ptr id off => simp only [hi, hd, hj]; rw [if_neg (fun hq => by have := hq.1; exact absurd this (by simp))]
                | _ => simp only [hi, hd]
            | _ => simp only [natI, hi]
          | _ => simp only [natI, hi]
        · exact gen
      · exact gen
    · exact gen
  | binOp op t x y yt =>
    simp only [compU]
    split
    · rename_i a b ha hb
      split
      · rename_i i hi
        split
        · exact gen
        · rename_i hc
          have hE : evG T h f.av ⟨dst, .binOp op t x y yt, ty, pos, after, guard⟩ = binA op (f.av x) (f.av y) := by
            cases op <;> simp only [evG, evL, hi, hc, Bool.false_eq_true, if_false]
          rw [hE]
          simp only [runK, compA_ok ha, compA_ok hb, kBi_eq]
      · exact gen
    · exact gen
  | unOp op t x =>
    cases op with
    | not =>
      simp only [compU]
      split
      · rename_i a ha
        rw [evG_evL (by simp) (by simp) (by simp)]
        simp only [runK, evL, compA_ok ha]
        cases f.av x with
        | lit v => cases v <;> rfl
        | _ => rfl
      · exact gen
    | _ => exact gen
  | extract x i =>
    simp only [compU]
    split
    · rename_i a ha
      rw [evG_evL (by simp) (by simp) (by simp)]
      simp only [runK, evL, compA_ok ha, kEx]
      cases f.av x with
      | tup vs => simp only [nthL_eq]
      | _ => rfl
    · exact gen
  | makeFunc g a b =>
    simp only [compU]
    split
    · rename_i as bs ha hb
      rw [evG_evL (by simp) (by simp) (by simp)]
      simp only [runK, evL, compL_ok ha, compL_ok hb]
    · exact gen
  | call c =>
    simp only [compU]
    split
    · rename_i g hg
      rw [evG_evL (by simp) (by simp) (by simp)]
      simp only [runK, evL, hg]
    · rename_i hg
      rw [evG_evL (by simp) (by simp) (by simp)]
      simp only [runK, evL, hg]
    · rename_i hg
      split
      · rename_i x t ha ht
        split
        · rename_i a i hx hi
          split
          · rename_i e hd
            rw [evG_evL (by simp) (by simp) (by simp)]
            simp only [runK, evL, hg, ha, ht, compA_ok hx, kLn]
            cases f.av x with
            | sl => simp only [hi, hd]; rfl
            | lit v => cases v <;> simp only [hi, hd] <;> rfl
            | _ => simp only [hi, hd]
          · exact gen
        · exact gen
      · exact gen
    · exact gen
  | pick c x y =>
    simp only [compU]
    split
    · rename_i c' a b hc ha hb
      rw [evG_evL (by simp) (by simp) (by simp)]
      simp only [runK, evL, compA_ok hc, compA_ok ha, compA_ok hb, kPk]
      cases f.av c with
      | lit v =>
        cases v with
        | bool b => cases b <;> rfl
        | _ => rfl
      | _ => rfl
    · exact gen
  | build t ps =>
    simp only [compU]
    split
    · exact gen
    · rename_i p l hps
      split
      · rename_i i hi
        split
        · rename_i r hr
          simp only [runK, evG, hps, buildK_eq hi hr]
          cases fill3 f r (i.zero.map .lit) <;> rfl
        · exact gen
      · exact gen
  | alloc | box | buildSlice | makeSlice | store | mapUpdate | lookup | makeMap | range | next | entry =>
    rw [evG_evL (by simp) (by simp) (by simp)]
    simp only [compU, runK, evL]
  | _ => exact gen
theorem want3_eq (ops : Array Oper) (f : TF) (o : Oper) : want3 ops f o = wantT ops f o := by
  unfold want3
  cases hg : o.guard with
  | none => unfold wantT; rw [hg]
  | some g =>
    simp only
    split
    · rename_i d p b hc
      unfold compG at hc
      split at hc
      · rename_i q hq
        split at hc
        · rename_i d' hd
          split at hc
          · rename_i hlt
            cases hc
            have hlt : @LT.lt Nat _ d 1048575 := Nat.le_of_ble_eq_true hlt
            unfold wantT
            rw [hg]
            simp only [Region.wanted, hg, TF.y, hq, Option.bind_some, hd, pth]
            rw [goP_eq 20 f.t d (by omega)]
            cases Nat.blt d f.len with
            | false => rfl
            | true =>
              simp only
              cases f.t.get d with
              | lit v =>
                cases v with
                | bool c => cases c <;> cases g.2 <;> rfl
                | _ => rfl
              | _ => rfl
          · cases hc
        · cases hc
      · cases hc
    · rfl
theorem light3_eq (ops : Array Oper) (h : Hp) (f : TF) (o : Oper) : light3 T ops h f o = lightT T ops h f o := by
  unfold light3 lightT
  rw [want3_eq]
  cases hg : o.guard with
  | none =>
    have : wantT ops f o = true := by unfold wantT; rw [hg]
    rw [this]
    exact runK_eq ops h f o
  | some g =>
    cases wantT ops f o with
    | true => exact runK_eq ops h f o
    | false => rfl
end
end Go.Ev
namespace Go.Ev
inductive Kh where
  | al (cs : List AV)
  | bx (x : Ar)
  | sr (n : Nat) (p v : Ar)
  | cl (g : Ar) (as : List Ar)
  | gen
section
variable (T : Ti)
def compH (o : Op) : Kh := match o with
  | .alloc e => match T e with
    | some i => .al (i.zero.map .lit)
    | none => .gen
  | .box _ x => match compA x with
    | some a => .bx a
    | none => .gen
  | .store t p v => match compA p, compA v, T t with
    | some a, some b, some i => .sr i.size a b
    | _, _, _ => .gen
  | .call c => match c.callee with
    | .value g => match compA g, compL c.args.toList with
      | some a, some as => .cl a as
      | _, _ => .gen
    | _ => .gen
  | _ => .gen
end
def oneF (a : AV) : Bool := match a with
  | .lit (.int _ _) => true
  | .lit (.bool _) => true
  | a => a.one
theorem oneF_eq (a : AV) : oneF a = a.one := by
  cases a with
  | lit v => cases v <;> rfl
  | _ => rfl
noncomputable def storeF (st : St) (n : Nat) (p v : AV) : Option St := match p with
  | .ptr id off => match hget st.h id with
    | some (.cells none false cs) => match Nat.beq (lenL (cellsF v)) n && (Nat.ble (off + n) (lenL cs) && allL oneF (cellsF v)) with
      | true => some ⟨hset st.h id (.cells none false (setsF (cellsF v) cs off)), st.n⟩
      | false => none
    | _ => none
  | _ => none
theorem allOne_eq : ∀ l : List AV, allL oneF l = l.all AV.one := fun l => by
  rw [allL_eq, show oneF = AV.one from funext oneF_eq]
theorem storeF_eq {T : Ti} {t : TypeId} {i : TI} (h : T t = some i) (st : St) (p v : AV) : storeF st i.size p v = storeA T st t p v := by
  unfold storeF storeA
  cases p with
  | ptr id off =>
    simp only [h, hget_eq]
    cases st.h.get id with
    | none => rfl
    | some o =>
      cases o with
      | cells fam ro cs =>
        cases fam with
        | some f => rfl
        | none =>
          cases ro with
          | true => rfl
          | false =>
            simp only [lenL_eq, allOne_eq, cellsF_eq, setsF_eq, hset_eq]
            by_cases hc : v.cells.length = i.size ∧ off + i.size ≤ cs.length ∧ v.cells.all AV.one
            · rw [if_pos hc, hc.1, Nat.beq_refl, Nat.ble_eq_true_of_le hc.2.1, hc.2.2]
              rfl
            · rw [if_neg hc]
              split
              · rename_i hq
                simp only [Bool.and_eq_true] at hq
                exact absurd ⟨Nat.eq_of_beq_eq_true hq.1, Nat.le_of_ble_eq_true hq.2.1, hq.2.2⟩ hc
              · rfl
      | _ => rfl
  | _ => rfl
section
variable (T : Ti) (X : St → (Operand → AV) → Oper → Option (List (AV × St))) (call : CallE)
noncomputable def runH (st : St) (f : TF) (o : Oper) (k : Kh) : Option (List (AV × St)) := match k with
  | .al cs => some [(.ptr st.n 0, ⟨(st.n, .cells none false cs) :: st.h, st.n + 1⟩)]
  | .bx x => some [(.ptr st.n 0, ⟨(st.n, .cells none false (cellsF (x.ev f))) :: st.h, st.n + 1⟩)]
  | .sr n p v => match storeF st n (p.ev f) (v.ev f) with
    | some s => some [(undA, s)]
    | none => X st f.av o
  | .cl g as => call (g.ev f) (evL3 f as) st
  | .gen => heavy T X call st f.av o
noncomputable def heavy3 (st : St) (f : TF) (o : Oper) : Option (List (AV × St)) := runH T X call st f o (compH T o.op)
variable {T X call}
theorem heavy3_eq (st : St) (f : TF) (o : Oper) : heavy3 T X call st f o = heavy T X call st f.av o := by
  unfold heavy3
  have gen : runH T X call st f o .gen = heavy T X call st f.av o := rfl
  obtain ⟨dst, op, ty, pos, after, guard⟩ := o
  cases op with
  | alloc e =>
    simp only [compH]
    split
    · rename_i i hi
      simp only [runH, heavy, evF, hi, Option.map_some]
      rfl
    · exact gen
  | box t x =>
    simp only [compH]
    split
    · rename_i a ha
      simp only [runH, heavy, evF, Option.map_some, compA_ok ha, cellsF_eq]
      rfl
    · exact gen
  | store t p v =>
    simp only [compH]
    split
    · rename_i a b i ha hb hi
      simp only [runH, heavy, storeO, compA_ok ha, compA_ok hb, storeF_eq hi]
      cases storeA T st t (f.av p) (f.av v) <;> rfl
    · exact gen
  | call c =>
    simp only [compH]
    split
    · rename_i g hg
      split
      · rename_i a as ha hb
        simp only [runH, heavy, hg, compA_ok ha, compL_ok hb]
      · exact gen
    · exact gen
  | _ => exact gen
end
def bind3 {α β : Type} (l : List α) (g : α → Option (List β)) : Option (List β) := match l with
  | [x] => g x
  | l => bindL l g
theorem bind3_eq {α β : Type} (l : List α) (g : α → Option (List β)) : bind3 l g = bindL l g := by
  unfold bind3
  split
  · rename_i x
    simp only [bindL]
    cases g x <;> simp
  · rfl
section
variable (T : Ti) (X : St → (Operand → AV) → Oper → Option (List (AV × St))) (call : CallE)
noncomputable def stepL (ops : Array Oper) (o : Oper) (ih : TF → St → Option (List (TF × St))) (f : TF) (st : St) : Option (List (TF × St)) := match light3 T ops st.h f o with
  | some r => ih (putF (compD o.dst) f r) st
  | none => match plainB o && want3 ops f o with
    | true => match heavy3 T X call st f o with
      | some outs => bind3 outs fun x => ih (putF (compD o.dst) f x.1) x.2
      | none => none
    | false => none
noncomputable def evOps3 (ops : Array Oper) (l : List Oper) : TF → St → Option (List (TF × St)) := @List.rec Oper (fun _ => TF → St → Option (List (TF × St))) (fun f st => some [(f, st)]) (fun o _ ih => stepL T X call ops o ih) l
variable {T X call}
theorem evOps3_eq (ops : Array Oper) : ∀ (l : List Oper) (f : TF) (st : St), evOps3 T X call ops l f st = evOps2 T X call ops l f st
  | [], f, st => rfl
  | o :: l, f, st => by
    have hih : ∀ f st, evOps3 T X call ops l f st = evOps2 T X call ops l f st := evOps3_eq ops l
    show stepL T X call ops o (evOps3 T X call ops l) f st = _
    simp only [stepL, evOps2, light3_eq, heavy3_eq, want3_eq, putF_eq, bind3_eq, hih]
    rfl
end
end Go.Ev
namespace Go.Ev
section
variable (T : Ti) (X : St → (Operand → AV) → Oper → Option (List (AV × St))) (call : CallE)
noncomputable def pend3 (ops : Array Oper) (pend : List (Nat × AV)) (f : TF) (h : Hp) : Bool := pend.all fun p => match ops[p.1]? with
  | none => false
  | some o => match light3 T ops h f o with
    | some r => avEq r p.2
    | none => false
noncomputable def pick3 (ops : Array Oper) (L : Nat) (h : Hp) (f : TF) (l : List En) : Option (En × AV) := @List.rec En (fun _ => Option (En × AV)) none (fun x _ ih => @Bool.rec (fun _ => Option (En × AV)) ih (match light3 T ops h f x.o with
  | some r => some (x, r)
  | none => ih) (x.fr && rdyE L x)) l
noncomputable def evDrawn3 (ops : Array Oper) (M : List Nat) : Nat → List (Nat × AV) → List En → Nat → TF → St → Option (List (TF × St))
  | 0, pend, un, L, f, st => match pend3 T ops pend f st.h && (un.filter (rdyE L)).isEmpty with
    | true => some [(f, st)]
    | false => none
  | fuel + 1, pend, un, L, f, st =>
    match pick3 T ops L st.h f un with
    | some (x, r) => evDrawn3 ops M fuel ((x.i, r) :: pend) (dropE x.i un) (Nat.lor (1 <<< x.i) L) (putF (compD x.o.dst) f r) st
    | none => match pend3 T ops pend f st.h with
      | false => none
      | true => match un.filter (rdyE L) with
        | [] => some [(f, st)]
        | y :: ys => bind3 (y :: ys) fun x => match light3 T ops st.h f x.o with
          | some r => evDrawn3 ops M fuel (dropP M x.i pend) (dropE x.i un) (Nat.lor (1 <<< x.i) L) (putF (compD x.o.dst) f r) st
          | none => match want3 ops f x.o with
            | true => match heavy3 T X call st f x.o with
              | some outs => bind3 outs fun z => evDrawn3 ops M fuel (dropP M x.i pend) (dropE x.i un) (Nat.lor (1 <<< x.i) L) (putF (compD x.o.dst) f z.1) z.2
              | none => none
            | false => none
variable {T X call}
theorem pend3_eq (ops : Array Oper) (pend : List (Nat × AV)) (f : TF) (h : Hp) : pend3 T ops pend f h = pendOkT T ops pend f h := by
  unfold pend3 pendOkT
  simp only [light3_eq]
  rfl
theorem pick3_eq (ops : Array Oper) (L : Nat) (h : Hp) (f : TF) : ∀ l : List En, pick3 T ops L h f l = pickE T ops L h f l
  | [] => rfl
  | x :: l => by
    have ih := pick3_eq ops L h f l
    show @Bool.rec (fun _ => Option (En × AV)) (pick3 T ops L h f l) (match light3 T ops h f x.o with
      | some r => some (x, r)
      | none => pick3 T ops L h f l) (x.fr && rdyE L x) = _
    rw [ih, light3_eq, pickE]
    cases x.fr && rdyE L x <;> rfl
theorem evDrawn3_eq (ops : Array Oper) (M : List Nat) : ∀ (fuel : Nat) (pend : List (Nat × AV)) (un : List En) (L : Nat) (f : TF) (st : St), evDrawn3 T X call ops M fuel pend un L f st = evDrawn2 T X call ops M fuel pend un L f st
  | 0, pend, un, L, f, st => by
    simp only [evDrawn3, evDrawn2, pend3_eq]
    rfl
  | fuel + 1, pend, un, L, f, st => by
    simp only [evDrawn3, evDrawn2, pend3_eq, pick3_eq, light3_eq, heavy3_eq, want3_eq, putF_eq, bind3_eq, evDrawn3_eq ops M fuel]
    rfl
end
end Go.Ev
namespace Go.Ev
section
variable (T : Ti)
def dlAt (ops : Array Oper) (i : Nat) : Option (Nat × List Value) := match ops[i]? with
  | some o => match o.op with
    | .alloc e => match o.guard, edgesOf o, T e with
      | none, [], some ti => some (i, ti.zero)
      | _, _, _ => none
    | _ => none
  | none => none
def dlC (ops : Array Oper) : List (Nat × List Value) := (List.range ops.size).filterMap (dlAt T ops)
def dlF (l : List (Nat × List Value)) (i : Nat) : Option (List Value) := match l with
  | [] => none
  | p :: r => match Nat.beq p.1 i with
    | true => some p.2
    | false => dlF r i
def ltF (ops : Array Oper) (l : List (Nat × List Value)) (i : Nat) : Bool := match dlF l i with
  | some _ => false
  | none => match ops[i]? with
    | some o => (match compU T o.op with
      | .hv => false
      | _ => true)
    | none => false
def sepB (ops : Array Oper) (M : List Nat) (l : List (Nat × List Value)) : Bool := (List.range ops.size).all fun j => match ops[j]? with
  | none => true
  | some oj => (edgesOf oj).all fun i => !((dlF l i).isSome) || (List.range ops.size).all fun u => match ops[u]? with
    | none => true
    | some ou => Nat.beq u j || ((M.getD j 0).testBit u || ((edgesOf ou).contains i || (((dlF l u).isSome && Nat.ble i u) || ltF T ops l u)))
def dlK (ops : Array Oper) (M : List Nat) : List (Nat × List Value) := match dlC T ops with
  | [] => []
  | l => match sepB T ops M l with
    | true => l
    | false => []
theorem dlF_mem : ∀ {l : List (Nat × List Value)} {i : Nat} {cs : List Value}, dlF l i = some cs → (i, cs) ∈ l
  | p :: r, i, cs, h => by
    simp only [dlF] at h
    split at h
    · rename_i hb
      cases h
      have := Nat.eq_of_beq_eq_true hb
      subst this
      exact List.mem_cons_self
    · exact List.mem_cons_of_mem _ (dlF_mem h)
theorem dlK_ok (ops : Array Oper) (M : List Nat) : DlOk T ops (dlF (dlK T ops M)) ∧ DlSep ops M (dlF (dlK T ops M)) (ltF T ops (dlK T ops M)) := by
  have hlt : ∀ (l : List (Nat × List Value)) (i : Nat), (dlF l i).isSome = true → ltF T ops l i = false := fun l i h => by
    unfold ltF
    cases hd : dlF l i with
    | none => rw [hd] at h; cases h
    | some c => rfl
  have nilc : DlOk T ops (dlF []) ∧ DlSep ops M (dlF []) (ltF T ops []) := ⟨fun i cs h => (by cases h), hlt [], fun i j u oj ou h => (by cases h)⟩
  have hcand : ∀ l, dlC T ops = l → DlOk T ops (dlF l) := fun l hl i cs h => by
    have hm := dlF_mem h
    rw [← hl] at hm
    unfold dlC at hm
    obtain ⟨k, _, hk⟩ := List.mem_filterMap.1 hm
    unfold dlAt at hk
    split at hk
    · rename_i o ho
      split at hk
      · rename_i e he
        split at hk
        · rename_i ti hg hed hti
          simp only [Option.some.injEq, Prod.mk.injEq] at hk
          obtain ⟨rfl, rfl⟩ := hk
          exact ⟨o, e, ti, ho, he, hg, hed, hti, rfl⟩
        · cases hk
      · cases hk
    · cases hk
  unfold dlK
  split
  · exact nilc
  · split
    · rename_i hs
      refine ⟨hcand _ rfl, hlt _, fun i j u oj ou hi hj hu he => ?_⟩
      unfold sepB at hs
      have h1 := List.all_eq_true.1 hs j (List.mem_range.2 (Array.getElem?_eq_some_iff.1 hj).1)
      simp only [hj] at h1
      have h2 := List.all_eq_true.1 h1 i he
      rw [hi] at h2
      simp only [Bool.not_true, Bool.false_or] at h2
      have h3 := List.all_eq_true.1 h2 u (List.mem_range.2 (Array.getElem?_eq_some_iff.1 hu).1)
      simp only [hu, Bool.or_eq_true, Bool.and_eq_true] at h3
      rcases h3 with h3 | h3 | h3 | h3 | h3
      · exact .inl (Nat.eq_of_beq_eq_true h3)
      · exact .inr (.inl h3)
      · exact .inr (.inr (.inl (List.contains_iff_mem.1 h3)))
      · exact .inr (.inr (.inr (.inl ⟨h3.1, Nat.le_of_ble_eq_true h3.2⟩)))
      · exact .inr (.inr (.inr (.inr h3)))
    · exact nilc
end
noncomputable def ownB (h : Hp) : Bool := allL (fun x : Nat × AObj => x.2.own) h
theorem ownB_ok {h : Hp} (hb : ownB h = true) : ∀ id o, h.get id = some o → o.own = true := by
  unfold ownB at hb
  rw [allL_eq] at hb
  induction h with
  | nil => intro id o h; cases h
  | cons x r ih =>
    rw [List.all_cons, Bool.and_eq_true] at hb
    intro id o h
    obtain ⟨i, y⟩ := x
    simp only [Hp.get] at h
    split at h
    · cases h; exact hb.1
    · exact ih hb.2 id o h
section
variable (T : Ti) (X : St → (Operand → AV) → Oper → Option (List (AV × St))) (call : CallE)
def leftB (ops : Array Oper) (dl : List (Nat × List Value)) (un : List En) : Bool := un.all fun x => (dlF dl x.i).isSome || (ltF T ops dl x.i || un.any fun y => (dlF dl y.i).isSome && (edgesOf x.o).contains y.i)
def both (a b : Option (List (TF × St))) : Option (List (TF × St)) := match a with
  | none => none
  | some x => match b with
    | none => none
    | some y => (match x with
      | [] => some y
      | x => some (x ++ y))
noncomputable def evDrawn4 (ops : Array Oper) (M : List Nat) (dl : List (Nat × List Value)) : Nat → List (Nat × AV) → List En → Nat → TF → St → Option (List (TF × St))
  | 0, pend, un, L, f, st => match pend3 T ops pend f st.h && (un.filter (rdyE L)).isEmpty with
    | true => some [(f, st)]
    | false => none
  | fuel + 1, pend, un, L, f, st =>
    match pick3 T ops L st.h f un with
    | some (x, r) => match dlF dl x.i with
      | none => evDrawn4 ops M dl fuel ((x.i, r) :: pend) (dropE x.i un) (Nat.lor (1 <<< x.i) L) (putF (compD x.o.dst) f r) st
      | some _ => none
    | none => match pend3 T ops pend f st.h with
      | false => none
      | true => match un.filter (rdyE L) with
        | [] => some [(f, st)]
        | y :: ys =>
          let third := bind3 ((y :: ys).filter (fun x => (dlF dl x.i).isNone)) fun x => match light3 T ops st.h f x.o with
            | some r => evDrawn4 ops M dl fuel (dropP M x.i pend) (dropE x.i un) (Nat.lor (1 <<< x.i) L) (putF (compD x.o.dst) f r) st
            | none => match want3 ops f x.o with
              | true => match heavy3 T X call st f x.o with
                | some outs => bind3 outs fun z => evDrawn4 ops M dl fuel (dropP M x.i pend) (dropE x.i un) (Nat.lor (1 <<< x.i) L) (putF (compD x.o.dst) f z.1) z.2
                | none => none
              | false => none
          match un.find? (fun x => (dlF dl x.i).isSome) with
          | none => third
          | some y => match leftB T ops dl un with
            | false => third
            | true => match dlF dl y.i with
              | none => none
              | some cs => match ownB st.h && un.all (fun x => !((dlF dl x.i).isSome) || Nat.ble y.i x.i) with
                | false => none
                | true => both third (evDrawn4 ops M dl fuel (dropP M y.i pend) (dropE y.i un) (Nat.lor (1 <<< y.i) L) (putF (compD y.o.dst) f (.ptr st.n 0)) ⟨(st.n, .cells none false (cs.map .lit)) :: st.h, st.n + 1⟩)
end
section
variable {P : Program} {T : Ti} {X : St → (Operand → AV) → Oper → Option (List (AV × St))} {call : CallE} {L : Nat}
theorem AnyA.done {ops : Array Oper} {M : List Nat} {rd : Option Nat} {dl : Nat → Option (List Value)} {lt : Nat → Bool} {K : Fm → St → Prop} {pend : List (Nat × AV)} {listed : Array Bool} {f : Fm} {st : St} (hD : DlOk T ops dl) (hp : PendOk T ops pend f st.h) (hr : Region.ready .any ops listed = []) (h : K f st) : ∀ fuel, AnyA P T ops M rd dl lt K fuel pend listed f st
  | 0 => ⟨hp, hr, h⟩
  | _ + 1 => ⟨hp, fun _ => h, fun j hj => (by rw [hr] at hj; cases hj), fun _ ⟨k, hk1, hk2⟩ => by
      exfalso
      obtain ⟨cs, hcs⟩ := Option.isSome_iff_exists.1 hk1
      obtain ⟨o, e, ti, ho, _, _, hed, _⟩ := hD k cs hcs
      have : k ∈ Region.ready .any ops listed := ready_of ho hk2 fun e he => by rw [hed] at he; cases he
      rw [hr] at this; cases this⟩
theorem Inv.un_mem {ops : Array Oper} {M : List Nat} {listed : Array Bool} {un : List En} {L : Nat} (h : Inv ops M listed un L) {x : En} : x ∈ un ↔ infoAt ops M x.i = some x ∧ listed.getD x.i true = false := by
  rw [h.un, List.mem_filter]
  constructor
  · rintro ⟨h1, h2⟩
    unfold infoL at h1
    obtain ⟨i, _, h3⟩ := List.mem_filterMap.1 h1
    have h4 := infoAt_some h3
    rw [h4.1]
    rw [h4.1] at h2
    exact ⟨h3, by simpa using h2⟩
  · rintro ⟨h1, h2⟩
    refine ⟨?_, by simpa using h2⟩
    unfold infoL
    refine List.mem_filterMap.2 ⟨x.i, List.mem_range.2 ?_, h1⟩
    exact (Array.getElem?_eq_some_iff.1 (infoAt_some h1).2.1).1
theorem infoAt_of {ops : Array Oper} {M : List Nat} {i : Nat} {o : Oper} (h : ops[i]? = some o) : ∃ x, infoAt ops M i = some x ∧ x.i = i ∧ x.o = o := by
  unfold infoAt
  rw [h]
  exact ⟨_, rfl, rfl, rfl⟩
theorem evDrawn4_ok (hT : TOk P T) (hX : XOk P X) (hc : CallOk P call) {rd : Option Nat} {ops : Array Oper} {M : List Nat} (hM : Tidy ops M) {dl : List (Nat × List Value)} (hD : DlOk T ops (dlF dl)) {K : Fm → St → Prop} : ∀ (fuel : Nat) {pend : List (Nat × AV)} {listed : Array Bool} {un : List En} {L : Nat} {f : TF} {st : St} {outs : List (TF × St)},
    Inv ops M listed un L → Closed ops listed → PL pend listed → f.ok → evDrawn4 T X call ops M dl fuel pend un L f st = some outs → (∀ x ∈ outs, x.1.ok → K x.1.abs x.2) → AnyA P T ops M rd (dlF dl) (ltF T ops dl) K fuel pend listed f.abs st
  | 0, pend, listed, un, L, f, st, outs, hi, hcl, hpl, hf, h, hk => by
    simp only [evDrawn4, pend3_eq] at h
    split at h
    · rename_i hb
      simp only [Bool.and_eq_true, List.isEmpty_iff] at hb
      cases h
      exact AnyA.done hD (pendOkT_of hb.1) (by rw [hi.ready, hb.2]; rfl) (hk (f, st) (List.mem_singleton.2 rfl) hf) 0
    · cases h
  | fuel + 1, pend, listed, un, L, f, st, outs, hi, hcl, hpl, hf, h, hk => by
    simp only [evDrawn4, pend3_eq, pick3_eq, light3_eq, heavy3_eq, want3_eq, putF_eq, bind3_eq] at h
    split at h
    · rename_i x r hp
      obtain ⟨h1, h2, h3⟩ := pickE_ok hp
      obtain ⟨h4, h5, h6⟩ := hi.mem h1
      have hlt := (Array.getElem?_eq_some_iff.1 h5).1
      split at h
      · rename_i hdl
        refine AnyA.take hM hT h5 hdl hD fuel hcl hpl (freeB_ok hM h5 hcl hpl h4 (by rw [← h6]; exact h2)) h4 (by rw [lightT_eq h5]; exact h3) ?_
        rw [← TF.abs_put hf]
        refine evDrawn4_ok hT hX hc hM hD fuel (hi.set hlt) (hcl.set h4) (fun p hm => ?_) (TF.put_ok hf _ _) h hk
        rcases List.mem_cons.1 hm with rfl | hm
        · have : x.i < listed.size := by rw [hi.size]; exact hlt
          simp [this]
        · exact getD_set_true (hpl p hm)
      · cases h
    · split at h
      · cases h
      · rename_i hb
        split at h
        · rename_i hq
          cases h
          exact AnyA.done hD (pendOkT_of hb) (by rw [hi.ready, hq]; rfl) (hk (f, st) (List.mem_singleton.2 rfl) hf) _
        · rename_i y ys hq
          have hready := hi.ready.trans (by rw [hq])
          have third : ∀ (outs3 : List (TF × St)), (bindL ((y :: ys).filter (fun x => (dlF dl x.i).isNone)) fun x => match lightT T ops st.h f x.o with
              | some r => evDrawn4 T X call ops M dl fuel (dropP M x.i pend) (dropE x.i un) (Nat.lor (1 <<< x.i) L) (f.put x.o.dst r) st
              | none => match wantT ops f x.o with
                | true => match heavy T X call st f.av x.o with
                  | some outs => bindL outs fun z => evDrawn4 T X call ops M dl fuel (dropP M x.i pend) (dropE x.i un) (Nat.lor (1 <<< x.i) L) (f.put x.o.dst z.1) z.2
                  | none => none
                | false => none) = some outs3 → (∀ x ∈ outs3, x ∈ outs) →
              ∀ j ∈ Region.ready .any ops listed, dlF dl j = none → ∃ o, ops[j]? = some o ∧ OpsW P rd ops [j] (fun f' st' => ∃ v, f' = f.abs.put o.dst v ∧ AnyA P T ops M rd (dlF dl) (ltF T ops dl) K fuel (dropP M j pend) (listed.setIfInBounds j true) f' st') f.abs st := by
            intro outs3 h hsub j hj hn
            rw [hready, List.mem_map] at hj
            obtain ⟨x, hx, rfl⟩ := hj
            obtain ⟨h4, h5, h6⟩ := hi.mem (by rw [hq]; exact hx)
            have hlt := (Array.getElem?_eq_some_iff.1 h5).1
            obtain ⟨os, h1, h2⟩ := bindL_ok h x (List.mem_filter.2 ⟨hx, by rw [hn]; rfl⟩)
            have hpl' : PL (dropP M x.i pend) (listed.setIfInBounds x.i true) := fun p hm => getD_set_true (hpl p (List.mem_filter.1 hm).1)
            refine ⟨x.o, h5, ?_⟩
            split at h1
            · rename_i r hr
              refine OpsW.lightV hT h5 (by rw [lightT_eq h5]; exact hr) (.nil ⟨r, rfl, ?_⟩)
              rw [← TF.abs_put hf]
              exact evDrawn4_ok hT hX hc hM hD fuel (hi.set hlt) (hcl.set h4) hpl' (TF.put_ok hf _ _) h1 fun z hz => hk z (hsub z (h2 z hz))
            · split at h1
              · rename_i hw
                split at h1
                · rename_i os2 hos
                  rw [← TF.av_eq] at hos
                  refine (heavy_ok hT hX hc h5 (by rw [wantT_eq]; exact hw) hos).mono fun f' st' ⟨v, hf', hm⟩ => ⟨v, hf', ?_⟩
                  subst hf'
                  obtain ⟨q, h7, h8⟩ := bindL_ok h1 (v, st') hm
                  rw [← TF.abs_put hf]
                  exact evDrawn4_ok hT hX hc hM hD fuel (hi.set hlt) (hcl.set h4) hpl' (TF.put_ok hf _ _) h7 fun z hz => hk z (hsub z (h2 z (h8 z hz)))
                · cases h1
              · cases h1
          have hent : ∀ k, (dlF dl k).isSome = true → listed.getD k true = false → ∃ z ∈ un, z.i = k := fun k hk1 hk2 => by
            obtain ⟨cs, hcs⟩ := Option.isSome_iff_exists.1 hk1
            obtain ⟨o, _, _, ho, _⟩ := hD k cs hcs
            obtain ⟨z, hz, hzi, _⟩ := infoAt_of (M := M) ho
            exact ⟨z, hi.un_mem.2 ⟨by rw [hzi]; exact hz, by rw [hzi]; exact hk2⟩, hzi⟩
          split at h
          · rename_i hnf
            refine ⟨pendOkT_of hb, fun h0 => (by rw [hready] at h0; cases h0), third _ h fun x hx => hx, fun _ ⟨k, hk1, hk2⟩ => ?_⟩
            exfalso
            obtain ⟨z, hz, rfl⟩ := hent k hk1 hk2
            have := List.find?_eq_none.1 hnf z hz
            exact this hk1
          · rename_i y0 hy0
            have hy0m := List.mem_of_find?_eq_some hy0
            have hy0u := hi.un_mem.1 hy0m
            split at h
            · rename_i hleft
              refine ⟨pendOkT_of hb, fun h0 => (by rw [hready] at h0; cases h0), third _ h fun x hx => hx, fun hC _ => ?_⟩
              exfalso
              have : leftB T ops dl un = true := by
                unfold leftB
                rw [List.all_eq_true]
                intro x hx
                have hxu := hi.un_mem.1 hx
                have hxo := (infoAt_some hxu.1).2.1
                simp only [Bool.or_eq_true]
                rcases hC x.i x.o hxo hxu.2 with h1 | h1 | ⟨k, k1, k2, k3⟩
                · exact .inl h1
                · exact .inr (.inl h1)
                · right; right
                  obtain ⟨z, hz, rfl⟩ := hent k k1 k2
                  rw [List.any_eq_true]
                  exact ⟨z, hz, by simp only [Bool.and_eq_true]; exact ⟨k1, List.contains_iff_mem.2 k3⟩⟩
              rw [this] at hleft; cases hleft
            · split at h
              · cases h
              · rename_i cs hcs
                split at h
                · cases h
                · rename_i hg
                  simp only [Bool.and_eq_true] at hg
                  obtain ⟨hown, hmin⟩ := hg
                  unfold both at h
                  split at h
                  · cases h
                  · rename_i o3 ho3
                    split at h
                    · cases h
                    · rename_i o4 ho4
                      have hmem : (∀ x ∈ o3, x ∈ outs) ∧ ∀ x ∈ o4, x ∈ outs := by
                        split at h
                        · cases h; exact ⟨fun x hx => (by cases hx), fun x hx => hx⟩
                        · cases h; exact ⟨fun x hx => List.mem_append_left _ hx, fun x hx => List.mem_append_right _ hx⟩
                      refine ⟨pendOkT_of hb, fun h0 => (by rw [hready] at h0; cases h0), third _ ho3 hmem.1, fun _ _ => ⟨y0.i, cs, hcs, hy0u.2, fun k hk1 hk2 => ?_, ownB_ok hown, ?_⟩⟩
                      · obtain ⟨z, hz, rfl⟩ := hent k hk1 hk2
                        have := List.all_eq_true.1 hmin z hz
                        rw [hk1] at this
                        exact Nat.le_of_ble_eq_true (by simpa using this)
                      · have h5 := (infoAt_some hy0u.1).2.1
                        obtain ⟨o', e', ti, ho', _, _, hed, _⟩ := hD y0.i cs hcs
                        have hlt := (Array.getElem?_eq_some_iff.1 h5).1
                        rw [h5] at ho'; cases ho'
                        have h4 : y0.i ∈ Region.ready .any ops listed := ready_of h5 hy0u.2 fun e he => by rw [hed] at he; cases he
                        refine ⟨y0.o, h5, ?_⟩
                        rw [← TF.abs_put hf]
                        exact evDrawn4_ok hT hX hc hM hD fuel (hi.set hlt) (hcl.set h4) (fun p hm => getD_set_true (hpl p (List.mem_filter.1 hm).1)) (TF.put_ok hf _ _) ho4 fun x hx => hk x (hmem.2 x hx)
theorem SW.drawnA {ops : Array Oper} {M : List Nat} (hm : P.follows .mixedOrders = true) (hT : TOk P T) {rd : Option Nat} {id : Nat} {Q : Exit → Fm → St → Prop} {f : Fm} {st : St} (hM : Tidy ops M) {dl : Nat → Option (List Value)} {lt : Nat → Bool} (hD : DlOk T ops dl) (hS : DlSep ops M dl lt)
    (h : AnyA P T ops M rd dl lt (fun f' st' => Q .normal f' st') ops.size [] (Array.replicate ops.size false) f st) : SW P rd (.region id ops true) Q f st := by
  intro φ w a n h1 h2 h3
  refine wpIn_region_any hm ?_
  have hrel : Rel φ st { w with drawn := w.drawn + 1 } := h2.of_heap rfl
  have hs := AnyA.sound (P := P) (w0 := { w with drawn := w.drawn + 1 }) (st0 := st) (φ0 := φ) (Q := Lift φ st w Q) (n := n) (rd := rd) (K := fun f' st' => Q .normal f' st') hM hT hD hS h1 (fun a' w' hl => by
    obtain ⟨f', st', φ', k, he, hr, ha, hf⟩ := hl
    exact ⟨f', st', φ', k, he, hr, ha, ⟨hf.os, hf.tape, hf.output, hf.size, hf.block, hf.own⟩⟩) (2 * ops.size) ops.size [] [] (Array.replicate ops.size false) (Array.replicate ops.size false) f st φ { w with drawn := w.drawn + 1 } a (by simp)
    (by unfold cntU; have := List.countP_le_length (p := fun k => !((Array.replicate ops.size false).getD k true)) (l := List.range ops.size); simpa using this) h
    ⟨fun g hg => (by cases hg), (by simp), (by simp), (by simp), (by simp), fun k hk => (by simp), closed_nil, closed_nil⟩ (Ext.refl _) hrel h3 (Fr.refl _ _ _)
  exact hs
end
end Go.Ev
namespace Go.Ev
noncomputable def mapL {α β : Type} (g : α → β) (l : List α) : List β := @List.rec α (fun _ => List β) [] (fun a _ ih => g a :: ih) l
theorem mapL_eq {α β : Type} (g : α → β) : ∀ l : List α, mapL g l = l.map g
  | [] => rfl
  | a :: l => by show g a :: mapL g l = _; rw [mapL_eq g l]; rfl
noncomputable def tsL (f : TF) : List AV := match Nat.ble f.len 1048575 with
  | true => mapL (fun i => goP (pth i) f.t) (List.range f.len)
  | false => f.abs.ts
theorem tsL_eq (f : TF) : tsL f = f.abs.ts := by
  unfold tsL
  split
  · rename_i hb
    have hb := Nat.le_of_ble_eq_true hb
    rw [mapL_eq]
    show _ = (List.range f.len).map f.t.get
    refine List.map_congr_left fun i hi => ?_
    have := List.mem_range.1 hi
    rw [pth, goP_eq 20 f.t i (by omega)]
  · rfl
noncomputable def loopQ (st : St) (id : Nat) : Option ALoop := match hget st.h id with
  | some (.loop r) => some r
  | _ => none
theorem loopQ_eq (st : St) (id : Nat) : loopQ st id = loopAt st id := by
  unfold loopQ loopAt
  rw [hget_eq]
  cases st.h.get id with
  | none => rfl
  | some o => cases o <;> rfl
noncomputable def setQ (st : St) (id : Nat) (r : ALoop) : St := ⟨hset st.h id (.loop r), st.n⟩
theorem setQ_eq (st : St) (id : Nat) (r : ALoop) : setQ st id r = setLoop st id r := by unfold setQ setLoop; rw [hset_eq]
noncomputable def rangeQ (lid : Nat) (f : TF) (st : St) : Option (List Out2) :=
  match loopQ st lid with
  | none => none
  | some r => match r.state with
    | .busy => none
    | _ => match r.pending with
      | none => some [(.normal, f, setQ st lid { r with state := .exhausted })]
      | some c => match jumpE c with
        | some e => some [(e, f, setQ st lid { r with state := .exhausted })]
        | none => none
theorem rangeQ_eq (lid : Nat) (f : TF) (st : St) : rangeQ lid f st = rangeT lid f st := by
  unfold rangeQ rangeT
  simp only [loopQ_eq, setQ_eq]
  cases loopAt st lid with
  | none => rfl
  | some r =>
    simp only
    cases r.state <;> simp only
    all_goals (cases r.pending with
      | none => rfl
      | some c => simp only; cases jumpE c <;> rfl)
def map3 (o : Option (List (TF × St))) : Option (List Out2) := match o with
  | some [x] => some [(.normal, x.1, x.2)]
  | some l => some (l.map normT)
  | none => none
theorem map3_eq (o : Option (List (TF × St))) : map3 o = o.map fun l => l.map normT := by
  unfold map3
  split
  · rfl
  · rfl
  · rfl
noncomputable def iter3 (body : TF → St → Option (List Out2)) (n : Nat) : TF → St → Option (List Out2) := @Nat.rec (fun _ => TF → St → Option (List Out2)) (fun _ _ => none) (fun _ ih f st => match body f st with
  | none => none
  | some outs => bind3 outs fun x => match x with
    | (.normal, f', st') => ih f' st'
    | (e, f', st') => some [(e, f', st')]) n
theorem iter3_eq {b1 b2 : TF → St → Option (List Out2)} (h : ∀ f st, b1 f st = b2 f st) : ∀ (n : Nat) (f : TF) (st : St), iter3 b1 n f st = iterT b2 n f st
  | 0, f, st => rfl
  | n + 1, f, st => by
    have ih : ∀ f st, iter3 b1 n f st = iterT b2 n f st := iter3_eq h n
    show (match b1 f st with
      | none => none
      | some outs => bind3 outs fun x => match x with
        | (.normal, f', st') => iter3 b1 n f' st'
        | (e, f', st') => some [(e, f', st')]) = _
    rw [h]
    simp only [iterT, bind3_eq, ih]
    rfl
def seq3 (oa : Option (List Out2)) (kb : TF → St → Option (List Out2)) : Option (List Out2) := match oa with
  | none => none
  | some outs => bind3 outs fun x => match x with
    | (.normal, f', st') => kb f' st'
    | (e, f', st') => some [(e, f', st')]
noncomputable def cond3 (c : Operand) (ka kb : TF → St → Option (List Out2)) (f : TF) (st : St) : Option (List Out2) := match compA c with
  | some a => match a.ev f with
    | .lit (.bool true) => ka f st
    | .lit (.bool false) => kb f st
    | _ => none
  | none => match f.av c with
    | .lit (.bool true) => ka f st
    | .lit (.bool false) => kb f st
    | _ => none
theorem cond3_eq (c : Operand) (ka kb : TF → St → Option (List Out2)) (f : TF) (st : St) : cond3 c ka kb f st = match f.av c with
    | .lit (.bool true) => ka f st
    | .lit (.bool false) => kb f st
    | _ => none := by
  unfold cond3
  split
  · rename_i a ha
    rw [compA_ok ha]
  · rfl
def block3 (id : Nat) (oc : Option (List Out2)) : Option (List Out2) := match oc with
  | none => none
  | some [x] => some [blockT id x]
  | some outs => some (outs.map (blockT id))
theorem block3_eq (id : Nat) (oc : Option (List Out2)) : block3 id oc = oc.map fun l => l.map (blockT id) := by
  unfold block3
  split <;> rfl
def scope3 (oc : Option (List Out2)) : Option (List Out2) := match oc with
  | none => none
  | some outs => match outs.all notGoto with
    | true => some outs
    | false => none
def merge3 (n : Nat) (o : Option (List (TF × St))) : Option (List Out2) := match o with
  | some [x] => some [(.normal, x.1, x.2)]
  | some l => some ((mergeF n l).map normT)
  | none => none
theorem merge3_eq (n : Nat) (o : Option (List (TF × St))) : merge3 n o = o.map fun l => (mergeF n l).map normT := by
  unfold merge3
  split <;> rfl
section
variable (T : Ti) (X : St → (Operand → AV) → Oper → Option (List (AV × St))) (call : CallE) (L : Nat)
noncomputable def region3 (ops : Array Oper) (draw : Bool) (f : TF) (st : St) : Option (List Out2) := match draw with
  | true => merge3 st.n (evDrawn4 T X call ops (masks ops) (dlK T ops (masks ops)) ops.size [] (infoL ops (masks ops)) 0 f st)
  | false => map3 (evOps3 T X call ops ops.toList f st)
noncomputable def range3 (rd : Option Nat) (g : Operand) (ps : Array Tmp) (assign body : Code) (f : TF) (st : St) : Option (List Out2) := match f.av g with
  | .fn (.func gf) first caps => match rd with
    | none => match call (.fn (.func gf) first caps) [.yld (st.n + 1)] ((st.push .dfr).push (.loop { state := .ready, pending := none, tmps := tsL f, params := ps, assign, body, dfid := st.n })) with
      | none => none
      | some outs => bind3 outs fun x => rangeQ (st.n + 1) { f with dm := st.n :: f.dm } x.2
    | some id0 => match loopQ st id0 with
      | none => none
      | some r0 => match call (.fn (.func gf) first caps) [.yld st.n] (st.push (.loop { state := .ready, pending := none, tmps := tsL f, params := ps, assign, body, dfid := r0.dfid })) with
        | none => none
        | some outs => bind3 outs fun x => rangeQ st.n f x.2
  | _ => none
noncomputable def evC3 (rd : Option Nat) (c : Code) : TF → St → Option (List Out2) := @Code.rec (fun _ => TF → St → Option (List Out2))
  (fun f st => some [(.normal, f, st)])
  (fun _ ops draw => region3 T X call ops draw)
  (fun _ _ iha ihb f st => seq3 (iha f st) ihb)
  (fun c _ _ iha ihb => cond3 c iha ihb)
  (fun id _ ih f st => block3 id (ih f st))
  (fun _ ih => iter3 ih L)
  (fun g ps assign body _ _ => range3 call rd g ps assign body)
  (fun id f st => some [(.exit id, f, st)])
  (fun _ ih f st => scope3 (ih f st))
  (fun _ f st => some [(.normal, f, st)])
  (fun _ _ _ => none)
  (fun f st => some [(.ret, f, st)])
  (fun _ _ _ => none) c
end
section
variable {P : Program} {T : Ti} {X : St → (Operand → AV) → Oper → Option (List (AV × St))} {call : CallE} {L : Nat}
theorem SW.unroll3 {rd : Option Nat} {c : Code} {K : Exit → Fm → St → Prop} {body : TF → St → Option (List Out2)} (hb : ∀ f st outs, f.ok → body f st = some outs → SW P rd c (fun e f' st' => ∃ tf, tf.ok ∧ f' = tf.abs ∧ (e, tf, st') ∈ outs) f.abs st) {n : Nat} {f : TF} {st : St} {outs : List Out2}
    (hf : f.ok) (h : iter3 body n f st = some outs) (hk : ∀ x ∈ outs, x.2.1.ok → K x.1 x.2.1.abs x.2.2) : SW P rd (.loop c) K f.abs st := by
  rw [iter3_eq (fun _ _ => rfl)] at h
  exact SW.unrollT hb hf h hk
theorem evC3_ok (hm : P.follows .mixedOrders = true) (hT : TOk P T) (hX : XOk P X) (hc : CallOk P call) {rd : Option Nat} : ∀ (c : Code) {f : TF} {st : St} {outs : List Out2} {K : Exit → Fm → St → Prop}, f.ok → tidyC c = true → evC3 T X call L rd c f st = some outs → (∀ x ∈ outs, x.2.1.ok → K x.1 x.2.1.abs x.2.2) → SW P rd c K f.abs st := by
  intro c
  induction c with
  | skip => intro f st outs K hf ht h hk; cases h; exact .skip (hk (.normal, f, st) (List.mem_singleton.2 rfl) hf)
  | label l => intro f st outs K hf ht h hk; cases h; exact .label (hk (.normal, f, st) (List.mem_singleton.2 rfl) hf)
  | exit id => intro f st outs K hf ht h hk; cases h; exact .exit (hk (.exit id, f, st) (List.mem_singleton.2 rfl) hf)
  | ret => intro f st outs K hf ht h hk; cases h; exact .ret (hk (.ret, f, st) (List.mem_singleton.2 rfl) hf)
  | goto l => intro f st outs K hf ht h hk; cases h
  | scope c ih =>
    intro f st outs K hf ht h hk
    simp only [tidyC] at ht
    have h : scope3 (evC3 T X call L rd c f st) = some outs := h
    unfold scope3 at h
    split at h
    · cases h
    · rename_i os hos
      split at h
      · rename_i hall
        cases h
        refine .scope (ih hf ht hos fun x hx hok => ?_)
        obtain ⟨e, f', st'⟩ := x
        have h1 := hk _ hx hok
        have h2 := List.all_eq_true.1 hall _ hx
        cases e with
        | goto l => cases h2
        | _ => exact h1
      · cases h
  | refuse why => intro f st outs K hf ht h hk; cases h
  | seq a b iha ihb =>
    intro f st outs K hf ht h hk
    simp only [tidyC, Bool.and_eq_true] at ht
    have h : seq3 (evC3 T X call L rd a f st) (evC3 T X call L rd b) = some outs := h
    unfold seq3 at h
    split at h
    · cases h
    · rename_i os hos
      rw [bind3_eq] at h
      refine .seq (iha hf ht.1 hos fun x hx hok => ?_)
      obtain ⟨e, f', st'⟩ := x
      obtain ⟨y, h1, h2⟩ := bindL_ok h _ hx
      cases e with
      | normal => exact ihb hok ht.2 h1 fun z hz => hk z (h2 z hz)
      | _ => simp only [Option.some.injEq] at h1; subst h1; exact hk (_, f', st') (h2 (_, f', st') (List.mem_singleton.2 rfl)) hok
  | cond c a b iha ihb =>
    intro f st outs K hf ht h hk
    simp only [tidyC, Bool.and_eq_true] at ht
    have h : cond3 c (evC3 T X call L rd a) (evC3 T X call L rd b) f st = some outs := h
    rw [cond3_eq] at h
    split at h
    · rename_i hq; exact SW.cond (t := true) (by rw [TF.av_eq]; exact hq) (iha hf ht.1 h hk)
    · rename_i hq; exact SW.cond (t := false) (by rw [TF.av_eq]; exact hq) (ihb hf ht.2 h hk)
    · cases h
  | block id c ih =>
    intro f st outs K hf ht h hk
    simp only [tidyC] at ht
    have h : block3 id (evC3 T X call L rd c f st) = some outs := h
    rw [block3_eq] at h
    cases hos : evC3 T X call L rd c f st with
    | none => rw [hos] at h; cases h
    | some os =>
      rw [hos] at h
      simp only [Option.map_some, Option.some.injEq] at h
      subst h
      refine .block (ih hf ht hos fun x hx hok => ?_)
      obtain ⟨e, f', st'⟩ := x
      have h1 := hk _ (List.mem_map_of_mem hx)
      cases e with
      | exit id' =>
        simp only [blockQ]
        split
        · rename_i hid; simp only [blockT, hid, if_true] at h1; exact h1 hok
        · rename_i hid; simp only [blockT, hid, if_false] at h1; exact h1 hok
      | _ => exact h1 hok
  | loop c ih =>
    intro f st outs K hf ht h hk
    simp only [tidyC] at ht
    have h : iter3 (evC3 T X call L rd c) L f st = some outs := h
    exact SW.unroll3 (fun f st outs hf h => ih hf ht h fun x hx hok => ⟨x.2.1, hok, rfl, hx⟩) hf h hk
  | region id ops draw =>
    intro f st outs K hf ht h hk
    have h : region3 T X call ops draw f st = some outs := h
    cases draw with
    | false =>
      simp only [region3, map3_eq, evOps3_eq] at h
      cases he : evOps2 T X call ops ops.toList f st with
      | none => rw [he] at h; cases h
      | some l =>
        rw [he] at h
        simp only [Option.map_some, Option.some.injEq] at h
        subst h
        refine .region ?_
        have h2 := evOps2_ok (rd := rd) (K := fun f' st' => K .normal f' st') hT hX hc ops.toList 0 hf rfl he fun x hx hok => hk _ (List.mem_map_of_mem hx) hok
        rwa [List.range_eq_range', ← Array.length_toList]
    | true =>
      simp only [tidyC] at ht
      simp only [region3, merge3_eq] at h
      cases he : evDrawn4 T X call ops (masks ops) (dlK T ops (masks ops)) ops.size [] (infoL ops (masks ops)) 0 f st with
      | none => rw [he] at h; cases h
      | some l =>
        rw [he] at h
        simp only [Option.map_some, Option.some.injEq] at h
        subst h
        obtain ⟨hD, hS⟩ := dlK_ok T ops (masks ops)
        refine SW.merge (l := l) (.drawnA hm hT (tidy_of ht) hD hS (evDrawn4_ok (K := fun f' st' => Exit.normal = .normal ∧ ∃ x ∈ l, x.1.ok ∧ f' = x.1.abs ∧ st' = x.2) hT hX hc (tidy_of ht) hD _ (Inv.start ops _) closed_nil (fun p hp => by cases hp) hf he fun x hx hok => ⟨rfl, x, hx, hok, rfl, rfl⟩)) fun x hx hok => ?_
        exact hk _ (List.mem_map_of_mem (f := normT) hx) hok
  | rangeFunc g ps assign body iha ihb =>
    intro f st outs K hf ht h hk
    have h : range3 call rd g ps assign body f st = some outs := h
    simp only [range3, bind3_eq, rangeQ_eq, loopQ_eq, tsL_eq] at h
    split at h
    · rename_i gf first caps hg
      cases rd with
      | none =>
        simp only at h
        split at h
        · cases h
        · rename_i os hos
          obtain ⟨hent, hcw⟩ := hc _ _ _ _ hos
          refine .rangeFunc (by rw [TF.av_eq]; exact hg) hent (hcw.mono fun v st' hm => ?_)
          obtain ⟨y, h1, h2⟩ := bindL_ok h _ hm
          exact rangeT_ok (f := { f with dm := st.n :: f.dm }) h1 hf (fun x hx => hk x (h2 x hx)) v
      | some id0 =>
        simp only at h
        split at h
        · cases h
        · rename_i r0 hr0
          split at h
          · cases h
          · rename_i os hos
            obtain ⟨hent, hcw⟩ := hc _ _ _ _ hos
            refine .rangeFuncIn hr0 (by rw [TF.av_eq]; exact hg) hent (hcw.mono fun v st' hm => ?_)
            obtain ⟨y, h1, h2⟩ := bindL_ok h _ hm
            exact rangeT_ok h1 hf (fun x hx => hk x (h2 x hx)) v
    · cases h
end
end Go.Ev
