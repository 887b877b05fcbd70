/-
  THE EVALUATOR, MADE QUICK: the light operations are what they were. Own work of the verifier of watercress.
-/
import Derived.Test.YtmoimpajiajacaaEvKb
namespace Go.Ev
section
variable {T : Ti}

theorem partK_eq {t : TypeId} {q : Option Nat} (h : partK T t = some q) (cs : List AV) (off : Nat) : partA T t cs off = match q with
    | some n => aggL n off cs
    | none => nthL cs off := by
  unfold partK at h
  unfold partA
  cases hi : T t with
  | none => rw [hi] at h; cases h
  | some i =>
    rw [hi] at h
    simp only at h ⊢
    by_cases ha : aggD i.desc = true
    · rw [if_pos ha] at h ⊢
      cases h
      simp only [aggL, lenL_eq, takeL_eq, dropL_eq]
      by_cases hb : off + i.size ≤ cs.length
      · rw [if_pos hb, Nat.ble_eq_true_of_le hb]
      · rw [if_neg hb]
        have : Nat.ble (off + i.size) cs.length = false := by
          cases hq : Nat.ble (off + i.size) cs.length with
          | false => rfl
          | true => exact absurd (Nat.le_of_ble_eq_true hq) hb
        rw [this]
    · rw [if_neg ha] at h ⊢
      cases h
      simp only [nthL_eq]

theorem fieldK_eq {s : TypeId} {f : Nat} {fd : Field} (h : fieldK T s f = some fd) : ∃ i fs, T s = some i ∧ i.desc = .struct fs ∧ fs[f]? = some fd := by
  unfold fieldK at h
  split at h
  · rename_i i hi
    split at h
    · rename_i fs hd
      exact ⟨i, fs, hi, hd, h⟩
    · cases h
  · cases h

theorem evG_evL {h : Hp} {ρ : Operand → AV} {o : Oper} (h1 : ∀ t x lo hi mx, o.op ≠ .slice t x lo hi mx) (h2 : ∀ t ps, o.op ≠ .build t ps) (h3 : ∀ op t x y yt, o.op ≠ .binOp op t x y yt) : evG T h ρ o = evL T h ρ o := by
  unfold evG
  split
  · rename_i hx; exact absurd hx (h1 _ _ _ _ _)
  · rename_i hx; exact absurd hx (h2 _ _)
  · rename_i hx; exact absurd hx (h3 _ _ _ _ _)
  · rename_i hx; exact absurd hx (h3 _ _ _ _ _)
  · rfl

theorem fill3_eq {pl : Nat → Option (Nat × Nat)} : ∀ {ps : List (Nat × Operand)} {r : List (Nat × Nat × Ar)}, compP pl ps = some r → ∀ (f : TF) (cs : List AV), fill3 f r cs = fillA pl cs (ps.map fun p => (p.1, f.av p.2))
  | [], r, h, f, cs => by cases h; rfl
  | p :: l, r, h, f, cs => by
    simp only [compP] at h
    split at h
    · rename_i q a r' hq ha hr
      cases h
      show (match Nat.beq (lenL (cellsF (a.ev f))) q.2 && Nat.ble (q.1 + q.2) (lenL cs) with
        | true => fill3 f r' (setsF (cellsF (a.ev f)) cs q.1)
        | false => none) = _
      simp only [List.map_cons, fillA, hq, lenL_eq, cellsF_eq, setsF_eq, compA_ok ha, fill3_eq hr]
      by_cases hc : (f.av p.2).cells.length ≠ q.2 ∨ q.1 + (f.av p.2).cells.length > cs.length
      · rw [if_pos hc]
        split
        · rename_i hb
          simp only [Bool.and_eq_true] at hb
          have h1 := Nat.eq_of_beq_eq_true hb.1
          have h2 := Nat.le_of_ble_eq_true hb.2
          omega
        · rfl
      · rw [if_neg hc]
        have h1 : (f.av p.2).cells.length = q.2 := by omega
        have h2 : q.1 + q.2 ≤ cs.length := by omega
        rw [h1, Nat.beq_refl, Nat.ble_eq_true_of_le h2]
        rfl
    · cases h
theorem buildK_eq {t : TypeId} {i : TI} {p : Nat × Operand} {l : List (Nat × Operand)} {r : List (Nat × Nat × Ar)} (hi : T t = some i) (h : compP (placeK T i) (p :: l) = some r) (f : TF) :
    buildA T t ((p :: l).map fun p => (p.1, f.av p.2)) = (fill3 f r (i.zero.map .lit)).map .agg := by
  rw [fill3_eq h]
  have hno : (placeK T i = fun _ => none) → False := fun hn => by
    rw [hn] at h
    simp [compP] at h
  unfold buildA
  simp only [hi]
  cases hd : i.desc with
  | struct fs =>
    simp only
    cases hp : placesA T fs.toList with
    | none => exact (hno (by unfold placeK; simp only [hd, hp])).elim
    | some places =>
      have : placeK T i = fun k => places[k]? := by unfold placeK; simp only [hd, hp]
      rw [this]
  | array n e =>
    simp only
    cases hp : T e with
    | none => exact (hno (by unfold placeK; simp only [hd, hp])).elim
    | some j =>
      have : placeK T i = fun k => some (k * j.size, j.size) := by unfold placeK; simp only [hd, hp]
      rw [this]
  | _ => exact (hno (by unfold placeK; simp only [hd])).elim

theorem runK_eq (ops : Array Oper) (h : Hp) (f : TF) (o : Oper) : runK T ops h f o (compU T o.op) = evG T h f.av o := by
  have gen : runK T ops h f o .gen = evG T h f.av o := rfl
  obtain ⟨dst, op, ty, pos, after, guard⟩ := o
  cases op with
  | move x =>
    simp only [compU]
    split
    · rename_i a ha
      rw [evG_evL (by simp) (by simp) (by simp)]
      simp only [runK, evL, compA_ok ha]
    · exact gen
  | assign x =>
    simp only [compU]
    split
    · rename_i a ha
      rw [evG_evL (by simp) (by simp) (by simp)]
      simp only [runK, evL, compA_ok ha]
    · exact gen
  | load t x =>
    simp only [compU]
    split
    · rename_i a n ha hp
      rw [evG_evL (by simp) (by simp) (by simp)]
      simp only [runK, evL, compA_ok ha, kLda, loadA]
      cases f.av x with
      | ptr id off =>
        simp only [cellL_eq]
        cases cellsAt h id with
        | none => rfl
        | some cs => simp only; rw [partK_eq hp]
      | _ => rfl
    · rename_i a ha hp
      rw [evG_evL (by simp) (by simp) (by simp)]
      simp only [runK, evL, compA_ok ha, kLd1, loadA]
      cases f.av x with
      | ptr id off =>
        simp only [cellL_eq]
        cases cellsAt h id with
        | none => rfl
        | some cs => simp only; rw [partK_eq hp]
      | _ => rfl
    · exact gen
  | fieldAddr s x fi =>
    simp only [compU]
    split
    · rename_i a fd ha hf
      split
      · rename_i j hj
        split
        · exact gen
        · rename_i hz
          obtain ⟨i, fs, h1, h2, h3⟩ := fieldK_eq hf
          have hz' : ¬ j.size = 0 := Nat.ne_of_beq_eq_false hz
          rw [evG_evL (by simp) (by simp) (by simp)]
          simp only [runK, evL, compA_ok ha, kFa]
          cases f.av x <;> simp [h1, h2, h3, hj, hz']
      · exact gen
    · exact gen
  | field s x fi =>
    simp only [compU]
    split
    · rename_i a fd ha hf
      obtain ⟨i, fs, h1, h2, h3⟩ := fieldK_eq hf
      split
      · rename_i n hp
        rw [evG_evL (by simp) (by simp) (by simp)]
        simp only [runK, evL, compA_ok ha, kFda]
        cases f.av x <;> simp [h1, h2, h3]
        rw [partK_eq hp]
      · rename_i hp
        rw [evG_evL (by simp) (by simp) (by simp)]
        simp only [runK, evL, compA_ok ha, kFd1]
        cases f.av x <;> simp [h1, h2, h3]
        rw [partK_eq hp]
      · exact gen
    · exact gen
  | indexAddr t x ix =>
    simp only [compU]
    split
    · rename_i a b i ha hb hi
      split
      · rename_i e hd
        split
        · rename_i j hj
          rw [evG_evL (by simp) (by simp) (by simp)]
          simp only [runK, evL, compA_ok ha, compA_ok hb]
          cases f.av ix with
          | lit v =>
            cases v with
            | int k n =>
              cases n with
              | ofNat n =>
                simp only [natI, kIxs]
                cases f.av x with
                | sl id off len sz ex =>
                  simp only [hi, hd, hj]
                  by_cases hc : n < len ∧ j.size = sz
                  · rw [if_pos ⟨Int.natCast_nonneg n, Int.ofNat_lt.2 hc.1, hc.2⟩, show Nat.blt n len = true from Nat.ble_eq_true_of_le hc.1, hc.2, Nat.beq_refl]
                    rfl
                  · rw [if_neg (fun hq => hc ⟨Int.ofNat_lt.1 hq.2.1, hq.2.2⟩)]
                    split
                    · rename_i hq
                      simp only [Bool.and_eq_true] at hq
                      exact absurd ⟨Nat.le_of_ble_eq_true hq.1, Nat.eq_of_beq_eq_true hq.2⟩ hc
                    · rfl
                | _ => simp only [hi, hd]
              | negSucc n =>
                simp only [natI]
                cases f.av x with
                | sl id off len sz ex => simp only [hi, hd, hj]; rw [if_neg (fun hq => by have := hq.1; exact absurd this (by simp))]
                | _ => simp only [hi, hd]
            | _ => simp only [natI, hi]
          | _ => simp only [natI, hi]
        · exact gen
      · rename_i len e hd
        split
        · rename_i j hj
          rw [evG_evL (by simp) (by simp) (by simp)]
          simp only [runK, evL, compA_ok ha, compA_ok hb]
          cases f.av ix with
          | lit v =>
            cases v with
            | int k n =>
              cases n with
              | ofNat n =>
                simp only [natI, kIxa]
                cases f.av x with
                | ptr id off =>
                  simp only [hi, hd, hj]
                  by_cases hc : n < len
                  · rw [if_pos ⟨Int.natCast_nonneg n, Int.ofNat_lt.2 hc⟩, show Nat.blt n len = true from Nat.ble_eq_true_of_le hc]
                    rfl
                  · rw [if_neg (fun hq => hc (Int.ofNat_lt.1 hq.2))]
                    split
                    · rename_i hq
                      exact absurd (Nat.le_of_ble_eq_true hq) hc
                    · rfl
                | _ => simp only [hi, hd]
              | negSucc n =>
                simp only [natI]
                cases f.av x with
                | ptr id off => simp only [hi, hd, hj]; rw [if_neg (fun hq => by have := hq.1; exact absurd this (by simp))]
                | _ => simp only [hi, hd]
            | _ => simp only [natI, hi]
          | _ => simp only [natI, hi]
        · exact gen
      · exact gen
    · exact gen
  | binOp op t x y yt =>
    simp only [compU]
    split
    · rename_i a b ha hb
      split
      · rename_i i hi
        split
        · exact gen
        · rename_i hc
          have hE : evG T h f.av ⟨dst, .binOp op t x y yt, ty, pos, after, guard⟩ = binA op (f.av x) (f.av y) := by
            cases op <;> simp only [evG, evL, hi, hc, Bool.false_eq_true, if_false]
          rw [hE]
          simp only [runK, compA_ok ha, compA_ok hb, kBi_eq]
      · exact gen
    · exact gen
  | unOp op t x =>
    cases op with
    | not =>
      simp only [compU]
      split
      · rename_i a ha
        rw [evG_evL (by simp) (by simp) (by simp)]
        simp only [runK, evL, compA_ok ha]
        cases f.av x with
        | lit v => cases v <;> rfl
        | _ => rfl
      · exact gen
    | _ => exact gen
  | extract x i =>
    simp only [compU]
    split
    · rename_i a ha
      rw [evG_evL (by simp) (by simp) (by simp)]
      simp only [runK, evL, compA_ok ha, kEx]
      cases f.av x with
      | tup vs => simp only [nthL_eq]
      | _ => rfl
    · exact gen
  | makeFunc g a b =>
    simp only [compU]
    split
    · rename_i as bs ha hb
      rw [evG_evL (by simp) (by simp) (by simp)]
      simp only [runK, evL, compL_ok ha, compL_ok hb]
    · exact gen
  | call c =>
    simp only [compU]
    split
    · rename_i g hg
      rw [evG_evL (by simp) (by simp) (by simp)]
      simp only [runK, evL, hg]
    · rename_i hg
      rw [evG_evL (by simp) (by simp) (by simp)]
      simp only [runK, evL, hg]
    · rename_i hg
      split
      · rename_i x t ha ht
        split
        · rename_i a i hx hi
          split
          · rename_i e hd
            rw [evG_evL (by simp) (by simp) (by simp)]
            simp only [runK, evL, hg, ha, ht, compA_ok hx, kLn]
            cases f.av x with
            | sl => simp only [hi, hd]; rfl
            | lit v => cases v <;> simp only [hi, hd] <;> rfl
            | _ => simp only [hi, hd]
          · exact gen
        · exact gen
      · exact gen
    · exact gen
  | pick c x y =>
    simp only [compU]
    split
    · rename_i c' a b hc ha hb
      rw [evG_evL (by simp) (by simp) (by simp)]
      simp only [runK, evL, compA_ok hc, compA_ok ha, compA_ok hb, kPk]
      cases f.av c with
      | lit v =>
        cases v with
        | bool b => cases b <;> rfl
        | _ => rfl
      | _ => rfl
    · exact gen
  | build t ps =>
    simp only [compU]
    split
    · exact gen
    · rename_i p l hps
      split
      · rename_i i hi
        split
        · rename_i r hr
          simp only [runK, evG, hps, buildK_eq hi hr]
          cases fill3 f r (i.zero.map .lit) <;> rfl
        · exact gen
      · exact gen
  | alloc | box | buildSlice | makeSlice | store | mapUpdate | lookup | makeMap | range | next | entry =>
    rw [evG_evL (by simp) (by simp) (by simp)]
    simp only [compU, runK, evL]
  | _ => exact gen

theorem want3_eq (ops : Array Oper) (f : TF) (o : Oper) : want3 ops f o = wantT ops f o := by
  unfold want3
  cases hg : o.guard with
  | none => unfold wantT; rw [hg]
  | some g =>
    simp only
    split
    · rename_i d p b hc
      unfold compG at hc
      split at hc
      · rename_i q hq
        split at hc
        · rename_i d' hd
          split at hc
          · rename_i hlt
            cases hc
            have hlt : @LT.lt Nat _ d 1048575 := Nat.le_of_ble_eq_true hlt
            unfold wantT
            rw [hg]
            simp only [Region.wanted, hg, TF.y, hq, Option.bind_some, hd, pth]
            rw [goP_eq 20 f.t d (by omega)]
            cases Nat.blt d f.len with
            | false => rfl
            | true =>
              simp only
              cases f.t.get d with
              | lit v =>
                cases v with
                | bool c => cases c <;> cases g.2 <;> rfl
                | _ => rfl
              | _ => rfl
          · cases hc
        · cases hc
      · cases hc
    · rfl
theorem light3_eq (ops : Array Oper) (h : Hp) (f : TF) (o : Oper) : light3 T ops h f o = lightT T ops h f o := by
  unfold light3 lightT
  rw [want3_eq]
  cases hg : o.guard with
  | none =>
    have : wantT ops f o = true := by unfold wantT; rw [hg]
    rw [this]
    exact runK_eq ops h f o
  | some g =>
    cases wantT ops f o with
    | true => exact runK_eq ops h f o
    | false => rfl
end
end Go.Ev
