/- Own work of the verifier of watercress: EvKf, EvX, EvS, EvU, EvY, EvKo. -/
import Derived.Test.YtkomalgeigefjaaMa6
import Derived.Laws.Cover3
import Derived.Test.YtkomalgeigefjaaMa4
import Derived.Maps.Keyed
import Derived.Maps.RangeRun
import Derived.DeepKeys4
set_option linter.unusedVariables false
set_option linter.unusedSimpArgs false
namespace Go.Ev
noncomputable def halfL (l : List AV) : Bool → List AV := @List.rec AV (fun _ => Bool → List AV) (fun _ => []) (fun a _ ih b => @Bool.rec (fun _ => List AV) (ih true) (a :: ih false) b) l
theorem halfL_nil (b : Bool) : halfL [] b = [] := rfl
theorem halfL_tt (a : AV) (r : List AV) : halfL (a :: r) true = a :: halfL r false := rfl
theorem halfL_ff (a : AV) (r : List AV) : halfL (a :: r) false = halfL r true := rfl
theorem halfL_get : ∀ (l : List AV) (b : Bool) (k : Nat), (halfL l b)[k]? = l[2 * k + (if b then 0 else 1)]?
  | [], b, k => by simp [halfL_nil]
  | a :: r, true, 0 => by simp [halfL_tt]
  | a :: r, true, k + 1 => by
    rw [halfL_tt, List.getElem?_cons_succ, halfL_get r false k]
    simp only [Bool.false_eq_true, if_false, if_true]
    rw [show 2 * (k + 1) + 0 = (2 * k + 1) + 1 from by omega, List.getElem?_cons_succ]
  | a :: r, false, k => by
    rw [halfL_ff, halfL_get r true k]
    simp only [Bool.false_eq_true, if_false, if_true]
    rw [List.getElem?_cons_succ]
    rfl
theorem halfL_len : ∀ (l : List AV) (b : Bool), (halfL l b).length ≤ l.length
  | [], b => by simp [halfL_nil]
  | a :: r, true => by rw [halfL_tt]; simp only [List.length_cons]; have := halfL_len r false; omega
  | a :: r, false => by rw [halfL_ff]; simp only [List.length_cons]; have := halfL_len r true; omega
noncomputable def treeL (n : Nat) : List AV → Tr := @Nat.rec (fun _ => List AV → Tr) (fun _ => .nil) (fun _ ih l => @List.rec AV (fun _ => Tr) .nil (fun a r _ => .node a (ih (halfL r true)) (ih (halfL r false))) l) n
theorem treeL_get : ∀ (n : Nat) (l : List AV) (i : Nat), i + 1 < 2 ^ n → (treeL n l).get i = l.getD i undA
  | 0, l, i, h => by simp at h
  | n + 1, [], i, h => by
    have : treeL (n + 1) [] = .nil := rfl
    rw [this]; simp [Tr.get]
  | n + 1, a :: r, i, h => by
    have hp : 2 ^ (n + 1) = 2 * 2 ^ n := by rw [Nat.pow_succ]; omega
    rw [hp] at h
    have : treeL (n + 1) (a :: r) = .node a (treeL n (halfL r true)) (treeL n (halfL r false)) := rfl
    rw [this]
    simp only [Tr.get]
    cases hi : Nat.beq i 0 with
    | true => have := Nat.eq_of_beq_eq_true hi; subst this; rfl
    | false =>
      have hi := Nat.ne_of_beq_eq_false hi
      cases hm : Nat.beq (i % 2) 1 with
      | true =>
        have hm := Nat.eq_of_beq_eq_true hm
        simp only
        rw [treeL_get n _ _ (by omega), List.getD_eq_getElem?_getD, List.getD_eq_getElem?_getD, halfL_get]
        obtain ⟨j, rfl⟩ : ∃ j, i = 2 * j + 1 := ⟨i / 2, by omega⟩
        rw [show (2 * j + 1) / 2 = j from by omega, List.getElem?_cons_succ]
        simp
      | false =>
        have hm := Nat.ne_of_beq_eq_false hm
        simp only
        rw [treeL_get n _ _ (by omega), List.getD_eq_getElem?_getD, List.getD_eq_getElem?_getD, halfL_get]
        obtain ⟨j, rfl⟩ : ∃ j, i = 2 * j + 2 := ⟨i / 2 - 1, by omega⟩
        rw [show (2 * j + 2) / 2 - 1 = j from by omega, show 2 * j + 2 = (2 * j + 1) + 1 from rfl, List.getElem?_cons_succ]
        simp
noncomputable def ofF (l : List AV) (n : Nat) : TF := ⟨treeL 20 l, (match Nat.ble (lenL l) n with | true => n | false => lenL l), []⟩
theorem ofF_len (l : List AV) (n : Nat) : (ofF l n).len = max l.length n := by
  unfold ofF
  simp only [lenL_eq]
  cases hb : Nat.ble l.length n with
  | true => have := Nat.le_of_ble_eq_true hb; simp only; omega
  | false =>
    have : ¬ l.length ≤ n := fun h => by rw [Nat.ble_eq_true_of_le h] at hb; cases hb
    simp only; omega
theorem ofF_ok {l : List AV} {n : Nat} (h : max l.length n ≤ bigT) : (ofF l n).ok := by unfold TF.ok; rw [ofF_len]; exact h
theorem ofF_abs {l : List AV} {n : Nat} (h : max l.length n ≤ bigT) : (ofF l n).abs = ⟨l ++ List.replicate (n - l.length) undA, []⟩ := by
  rw [← TF.abs_of h]
  unfold TF.abs
  rw [ofF_len]
  show (⟨_, []⟩ : Fm) = ⟨_, []⟩
  congr 1
  refine List.map_congr_left fun i hi => ?_
  have hlt : i < max l.length n := List.mem_range.1 hi
  show (treeL 20 l).get i = (Tr.fill 0 l .nil).get i
  rw [treeL_get 20 l i (by unfold bigT at h; omega), Tr.get_fill l 0 .nil i (by omega)]
  by_cases hc : i < l.length
  · rw [if_pos (by omega)]; simp
  · rw [if_neg (by omega), List.getD_eq_getElem?_getD, List.getElem?_eq_none (by omega)]
    simp [Tr.get]
noncomputable def ltV (n : Nat) (a : AV) : Bool := @AV.rec (fun _ => Bool) (fun _ => Bool) (fun _ => true) (fun i _ => Nat.blt i n) (fun i _ _ _ _ => Nat.blt i n) (fun i => Nat.blt i n) (fun i => Nat.blt i n) (fun _ _ _ h1 h2 => @Bool.rec (fun _ => Bool) false h2 h1) (fun _ h => h) (fun _ h => h) true (fun _ _ h1 h2 => @Bool.rec (fun _ => Bool) false h2 h1) a
noncomputable def ltL (n : Nat) (l : List AV) : Bool := allL (ltV n) l
noncomputable def ltO (n : Nat) (o : AObj) : Bool := match o with
  | .cells none _ cs => ltL n cs
  | .cells (some g) _ cs => Nat.blt g n && ltL n cs
  | .loop r => Nat.blt r.dfid n && ltL n r.tmps
  | .dfr => true
  | .map es _ => es.all fun x => ltV n x.1 && ltV n x.2.1
  | .iter mid _ _ _ => Nat.blt mid n
theorem and_rec (a b : Bool) : @Bool.rec (fun _ => Bool) false b a = (a && b) := by cases a <;> rfl
theorem ltV_sub (n : Nat) : ∀ (l : List AV), @AV.rec_1 (fun _ => Bool) (fun _ => Bool) (fun _ => true) (fun i _ => Nat.blt i n) (fun i _ _ _ _ => Nat.blt i n) (fun i => Nat.blt i n) (fun i => Nat.blt i n) (fun _ _ _ h1 h2 => @Bool.rec (fun _ => Bool) false h2 h1) (fun _ h => h) (fun _ h => h) true (fun _ _ h1 h2 => @Bool.rec (fun _ => Bool) false h2 h1) l = l.all (ltV n)
  | [] => rfl
  | a :: r => by
    have ih := ltV_sub n r
    show @Bool.rec (fun _ => Bool) false (@AV.rec_1 (fun _ => Bool) (fun _ => Bool) _ _ _ _ _ _ _ _ _ _ r) (ltV n a) = _
    rw [ih, and_rec, List.all_cons]
theorem rho_nil {n i : Nat} (h : Nat.blt i n = true) : rho n [] i = some i := by unfold rho; rw [if_pos h]
mutual
theorem renV_id {n : Nat} : ∀ {a : AV}, ltV n a = true → renV (rho n []) a = some a
  | .lit v, _ => rfl
  | .ptr i o, h => by simp only [renV, rho_nil (show Nat.blt i n = true from h)]
  | .sl i a b c d, h => by simp only [renV, rho_nil (show Nat.blt i n = true from h)]
  | .mp i, h => by simp only [renV, rho_nil (show Nat.blt i n = true from h)]
  | .yld i, h => by simp only [renV, rho_nil (show Nat.blt i n = true from h)]
  | .fn f a b, h => by
    have h' : @Bool.rec (fun _ => Bool) false (@AV.rec_1 (fun _ => Bool) (fun _ => Bool) _ _ _ _ _ _ _ _ _ _ b) (@AV.rec_1 (fun _ => Bool) (fun _ => Bool) _ _ _ _ _ _ _ _ _ _ a) = true := h
    rw [and_rec, ltV_sub, ltV_sub, Bool.and_eq_true] at h'
    simp only [renV, renL_id h'.1, renL_id h'.2]
  | .agg a, h => by
    have h' : @AV.rec_1 (fun _ => Bool) (fun _ => Bool) _ _ _ _ _ _ _ _ _ _ a = true := h
    rw [ltV_sub] at h'
    simp only [renV, renL_id h']
  | .tup a, h => by
    have h' : @AV.rec_1 (fun _ => Bool) (fun _ => Bool) _ _ _ _ _ _ _ _ _ _ a = true := h
    rw [ltV_sub] at h'
    simp only [renV, renL_id h']
theorem renL_id {n : Nat} : ∀ {l : List AV}, l.all (ltV n) = true → renL (rho n []) l = some l
  | [], _ => rfl
  | a :: r, h => by
    rw [List.all_cons, Bool.and_eq_true] at h
    simp only [renL, renV_id h.1, renL_id h.2]
end
theorem renEs_id {n : Nat} : ∀ {l : List (AV × AV × Nat)}, (l.all fun x => ltV n x.1 && ltV n x.2.1) = true → renEs (rho n []) l = some l
  | [], _ => rfl
  | (a, b, c) :: r, h => by
    rw [List.all_cons, Bool.and_eq_true, Bool.and_eq_true] at h
    simp only [renEs, renV_id h.1.1, renV_id h.1.2, renEs_id h.2]
theorem renO_id {n : Nat} {o : AObj} (h : ltO n o = true) : renO (rho n []) o = some o := by
  cases o with
  | cells fam ro cs =>
    cases fam with
    | none => simp only [ltO, ltL, allL_eq] at h; simp only [renO, renL_id h]
    | some g =>
      simp only [ltO, ltL, allL_eq, Bool.and_eq_true] at h
      simp only [renO, rho_nil h.1, renL_id h.2]
  | loop r => simp only [ltO, ltL, allL_eq, Bool.and_eq_true] at h; simp only [renO, rho_nil h.1, renL_id h.2]
  | dfr => rfl
  | map es c => simp only [ltO] at h; simp only [renO, renEs_id h]
  | iter m a b c => simp only [ltO] at h; simp only [renO, rho_nil h]
noncomputable def oldH (n : Nat) (h : Hp) : Option Hp := @List.rec (Nat × AObj) (fun _ => Option Hp) (some []) (fun x _ ih => @Bool.rec (fun _ => Option Hp) ih (match ltO n x.2 with
  | true => match ih with
    | some r => some (x :: r)
    | none => none
  | false => none) (Nat.blt x.1 n)) h
theorem oldH_eq {n : Nat} : ∀ {h h' : Hp}, oldH n h = some h' → renOld (rho n []) n h = some h'
  | [], h', hh => hh
  | x :: r, h', hh => by
    have hh' : @Bool.rec (fun _ => Option Hp) (oldH n r) (match ltO n x.2 with
      | true => match oldH n r with
        | some r => some (x :: r)
        | none => none
      | false => none) (Nat.blt x.1 n) = some h' := hh
    simp only [renOld]
    cases hb : Nat.blt x.1 n with
    | false => rw [hb] at hh'; exact oldH_eq hh'
    | true =>
      rw [hb] at hh'
      simp only at hh'
      split at hh'
      · rename_i ho
        split at hh'
        · rename_i r' hr'
          cases hh'
          simp only [renO_id ho, oldH_eq hr']
        · cases hh'
      · cases hh'
noncomputable def gc3 (D n0 : Nat) (v : AV) (st : St) : AV × St := match Nat.ble st.n (n0 + D) with
  | true => (v, st)
  | false => match ltV n0 v with
    | true => match oldH n0 st.h with
      | some h => (v, ⟨h, n0⟩)
      | none => canon n0 v st
    | false => canon n0 v st
theorem CPost.ren {φ : Fi} {st : St} {w : World} {k : AV → St → Prop} {e : Ending} {w' : World} (hn : φ.n = st.n) {v v' : AV} {cv : Value} {st' : St} {φ' : Fi} (he : e = .returned cv) (hv : VR φ' v cv) (hex : Ext φ φ') (hrel : Rel φ' st' w') (hfr : Fr φ st w φ' st' w')
    {ord : List Nat} {a b : Hp} (h1 : ord.Nodup) (h2 : ∀ i ∈ ord, st.n ≤ i) (hv' : renV (rho st.n ord) v = some v') (ha : renOld (rho st.n ord) st.n st'.h = some a) (hb : renNew (rho st.n ord) st'.h st.n ord = some b) (hk : k v' ⟨b ++ a, st.n + ord.length⟩) : CPost φ st w k e w' := by
  obtain ⟨h3, h4⟩ := renSt_ok hrel h1 h2 ha hb
  refine ⟨v', cv, _, phi st.n ord φ', he, hk, renV_ok (rho_ok st.n ord φ') hv' hv, ⟨?_, fun id hid => ?_⟩, h3, ⟨hfr.os, hfr.tape, hfr.output, hfr.size, hfr.block, fun k hk => hfr.own k (h4 k hk)⟩⟩
  · rw [hn]; unfold phi; simp only; omega
  · rw [phi_old (by rw [← hn]; exact hid)]; exact hex.f id hid
theorem CPost.gc {φ : Fi} {st : St} {w : World} {k : AV → St → Prop} {e : Ending} {w' : World} (D : Nat) (hn0 : φ.n = st.n) (hp : CPost φ st w (fun v st' => k (Ev.gc3 D st.n v st').1 (Ev.gc3 D st.n v st').2) e w') : CPost φ st w k e w' := by
  obtain ⟨v, cv, st', φ', he, hk, hv, hex, hrel, hfr⟩ := hp
  have same : k v st' → CPost φ st w k e w' := fun hk => ⟨v, cv, st', φ', he, hk, hv, hex, hrel, hfr⟩
  have cano : k (Ev.canon st.n v st').1 (Ev.canon st.n v st').2 → CPost φ st w k e w' := fun hk => by
    unfold Ev.canon at hk
    split at hk
    · exact same hk
    · simp only at hk
      generalize reach st'.h st.n 4000 _ [] = ord at hk
      split at hk
      · exact same hk
      · rename_i hc
        simp only [Bool.and_eq_true, decide_eq_true_eq, List.all_eq_true] at hc
        split at hk
        · rename_i v' a b hv' ha hb
          exact CPost.ren hn0 he hv hex hrel hfr hc.1 (fun i hi => Nat.le_of_ble_eq_true (hc.2 i hi)) hv' ha hb hk
        · exact same hk
  unfold gc3 at hk
  split at hk
  · exact same hk
  · split at hk
    · rename_i hlt
      split at hk
      · rename_i h' hh'
        exact CPost.ren (ord := []) (b := []) hn0 he hv hex hrel hfr (by simp) (fun i hi => by cases hi) (renV_id hlt) (oldH_eq hh') rfl hk
      · exact cano hk
    · exact cano hk
noncomputable def ltO4 (n : Nat) (o : AObj) : Bool := match o with
  | .cells none _ cs => ltL n cs
  | .cells (some g) _ cs => Nat.blt g n && ltL n cs
  | .map es _ => allL (fun x => ltV n x.1 && ltV n x.2.1) es
  | _ => true
noncomputable def oldOk (n : Nat) (h : Hp) : Bool := @List.rec (Nat × AObj) (fun _ => Bool) true (fun x _ ih => @Bool.rec (fun _ => Bool) ih (@Bool.rec (fun _ => Bool) false ih (ltO4 n x.2)) (Nat.blt x.1 n)) h
noncomputable def oldL (n : Nat) (h : Hp) : Hp := @List.rec (Nat × AObj) (fun _ => Hp) [] (fun x _ ih => @Bool.rec (fun _ => Hp) ih (x :: ih) (Nat.blt x.1 n)) h
theorem oldL_eq (n : Nat) : ∀ h : Hp, oldL n h = h.filter fun x => Nat.blt x.1 n
  | [] => rfl
  | x :: r => by
    show @Bool.rec (fun _ => Hp) (oldL n r) (x :: oldL n r) (Nat.blt x.1 n) = _
    rw [oldL_eq n r, List.filter_cons]
    cases Nat.blt x.1 n <;> rfl
noncomputable def gc4 (D n0 : Nat) (v : AV) (st : St) : AV × St := match Nat.ble st.n (n0 + D) with
  | true => (v, st)
  | false => match ltV n0 v && oldOk n0 st.h with
    | true => (v, ⟨oldL n0 st.h, st.n⟩)
    | false => match Nat.ble st.n (n0 + 8 * D) with
      | true => (v, st)
      | false => canon n0 v st
theorem CPost.gc4 {φ : Fi} {st : St} {w : World} {k : AV → St → Prop} {e : Ending} {w' : World} (D : Nat) (hn0 : φ.n = st.n) (hp : CPost φ st w (fun v st' => k (Ev.gc4 D st.n v st').1 (Ev.gc4 D st.n v st').2) e w') : CPost φ st w k e w' := by
  obtain ⟨v, cv, st', φ', he, hk, hv, hex, hrel, hfr⟩ := hp
  have same : k v st' → CPost φ st w k e w' := fun hk => ⟨v, cv, st', φ', he, hk, hv, hex, hrel, hfr⟩
  have cano : k (Ev.canon st.n v st').1 (Ev.canon st.n v st').2 → CPost φ st w k e w' := fun hk => by
    unfold Ev.canon at hk
    split at hk
    · exact same hk
    · simp only at hk
      generalize reach st'.h st.n 4000 _ [] = ord at hk
      split at hk
      · exact same hk
      · rename_i hc
        simp only [Bool.and_eq_true, decide_eq_true_eq, List.all_eq_true] at hc
        split at hk
        · rename_i v' a b hv' ha hb
          exact CPost.ren hn0 he hv hex hrel hfr hc.1 (fun i hi => Nat.le_of_ble_eq_true (hc.2 i hi)) hv' ha hb hk
        · exact same hk
  unfold Ev.gc4 at hk
  split at hk
  · exact same hk
  · split at hk
    · rw [oldL_eq] at hk
      exact ⟨v, cv, st'.keep fun i => Nat.blt i st.n, φ', he, hk, hv, hex, hrel.keep _, hfr.keep _⟩
    · split at hk
      · exact same hk
      · exact cano hk
noncomputable def nthP (f : TF) (t : Nat) : AV := match Nat.blt t 1048575 with
  | true => @Bool.rec (fun _ => AV) undA (goP (pth t) f.t) (Nat.blt t f.len)
  | false => f.at t
theorem nthP_eq (f : TF) (t : Nat) : nthP f t = f.at t := by
  unfold nthP
  cases hb : Nat.blt t 1048575 with
  | false => rfl
  | true =>
    have ht : t < 1048575 := Nat.le_of_ble_eq_true hb
    simp only [TF.at, pth]
    rw [goP_eq 20 f.t t (by omega)]
    cases Nat.blt t f.len <;> rfl
section
variable (T : Ti)
noncomputable def resOne3 (f : TF) (st : St) (r : ResultVar) : Option AV := match r with
  | .tmp t => some (nthP f t)
  | .cell a t => match partK T t with
    | some (some n) => kLda st.h n (nthP f a)
    | some none => kLd1 st.h (nthP f a)
    | none => loadA T st.h t (nthP f a)
noncomputable def resAll3 (f : TF) (st : St) : List ResultVar → Option (List AV)
  | [] => some []
  | r :: rs => match resOne3 T f st r, resAll3 f st rs with
    | some v, some vs => some (v :: vs)
    | _, _ => none
noncomputable def resA3 (rs : Array ResultVar) (f : TF) (st : St) : Option AV := match rs.toList with
  | [r] => resOne3 T f st r
  | l => match resAll3 T f st l with
    | some [v] => some v
    | some vs => some (.tup vs)
    | none => none
variable {T}
theorem resOne3_eq (f : TF) (st : St) (r : ResultVar) : resOne3 T f st r = resOne T f.abs st r := by
  cases r with
  | tmp t => simp only [resOne3, resOne, TF.at_eq, nthP_eq]
  | cell a t =>
    simp only [resOne3, resOne, TF.at_eq, nthP_eq]
    split
    · rename_i n hp
      simp only [kLda, loadA]
      cases f.at a with
      | ptr id off =>
        simp only [cellL_eq]
        cases cellsAt st.h id with
        | none => rfl
        | some cs => simp only; rw [partK_eq hp]
      | _ => rfl
    · rename_i hp
      simp only [kLd1, loadA]
      cases f.at a with
      | ptr id off =>
        simp only [cellL_eq]
        cases cellsAt st.h id with
        | none => rfl
        | some cs => simp only; rw [partK_eq hp]
      | _ => rfl
    · rfl
theorem resAll3_eq (f : TF) (st : St) : ∀ rs : List ResultVar, resAll3 T f st rs = resAll T f.abs st rs
  | [] => rfl
  | r :: rs => by
    simp only [resAll3, resAll, resOne3_eq, resAll3_eq f st rs]
    rfl
theorem resA3_eq (rs : Array ResultVar) (f : TF) (st : St) : resA3 T rs f st = resA T rs f.abs st := by
  unfold resA3 resA
  cases hrs : rs.toList with
  | nil => simp only [resAll3_eq]; rfl
  | cons r l =>
    cases l with
    | nil =>
      simp only [resOne3_eq, resAll]
      cases resOne T f.abs st r <;> rfl
    | cons r' l' => simp only [resAll3_eq]; rfl
end
noncomputable def setPs3 (ts : List AV) (l : List (Tmp × AV)) : List AV := @List.rec (Tmp × AV) (fun _ => List AV → List AV) (fun ts => ts) (fun x _ ih ts => ih (setL ts x.1 x.2)) l ts
theorem setPs3_eq : ∀ (l : List (Tmp × AV)) (ts : List AV), setPs3 ts l = setPs ts l
  | [], ts => by simp [setPs3, setPs]
  | (t, a) :: r, ts => by
    show setPs3 (setL ts t a) r = _
    rw [setPs3_eq r, setL_eq]
    simp [setPs]
end Go.Ev
namespace Go.Ev
def isNilSl : AV → Bool
  | .lit (.slice none 0 0) => true
  | _ => false
theorem isNilSl_ok {a : AV} (h : isNilSl a = true) : a = .lit (.slice none 0 0) := by
  unfold isNilSl at h
  split at h
  · rfl
  · cases h
def xNil (T : Ti) (st : St) (ρ : Operand → AV) (o : Oper) : Option (List (AV × St)) :=
  match o.op with
  | .binOp .eql t x y _ => match T t with
    | some i => match i.desc with
      | .slice _ => if isNilSl (ρ y) then match ρ x with
          | .sl _ _ _ _ _ => some [(.lit (.bool false), st)]
          | .lit (.slice none 0 0) => some [(.lit (.bool true), st)]
          | _ => none
        else none
      | _ => none
    | none => none
  | _ => none
theorem xNil_ok {P : Program} {T : Ti} (hT : TOk P T) : XOk P (xNil T) := by
  intro rd ops i f st o outs ho hw h
  unfold xNil at h
  split at h
  · rename_i t x y yt hx
    split at h
    · rename_i ti hti
      split at h
      · rename_i e hd
        split at h
        · rename_i hn
          have hu := (hT t ti hti).und
          rw [hd] at hu
          have key : ∀ (b : Bool) (φ : Fi) (w : World) (a : Act) (p : Option Addr) (l c : Nat), ActR φ f a → a.eval x = .slice p l c → p.isNone = b → (execOp a.eval o).run P w = .ok (.value (.bool b)) w := fun b φ w a p l c ha hp hb => by
            have hy := opR_of ha.ts y
            rw [isNilSl_ok hn] at hy
            have hy := hy.lit_inv
            have h1 := run_equalIn_slice_nil (P := P) (w := w) 9999 t e p l c hu
            subst hb
            simp only [execOp, hx, hp, hy]
            simp [Sem.run_bind, eqGuard, Result.andThen, binOp, Op.equal, Op.maxDepth, h1]
          split at h
          · rename_i id off len sz ex hxv
            cases h
            refine OpsW.value ho hw (fun c hc => by rw [hx] at hc; cases hc) (fun φ w a h2 h3 => ?_) (.nil ⟨_, rfl, List.mem_singleton.2 rfl⟩)
            have hxx := opR_of h3.ts x
            rw [hxv] at hxx
            obtain ⟨cap, hs, _⟩ := hxx.sl_inv
            exact ⟨φ, w, _, .inl (key false φ w a _ _ _ h3 hs rfl), .lit _, h2, Ext.refl _, Fr.refl _ _ _⟩
          · rename_i hxv
            cases h
            refine OpsW.value ho hw (fun c hc => by rw [hx] at hc; cases hc) (fun φ w a h2 h3 => ?_) (.nil ⟨_, rfl, List.mem_singleton.2 rfl⟩)
            have hxx := opR_of h3.ts x
            rw [hxv] at hxx
            have hs := hxx.lit_inv
            exact ⟨φ, w, _, .inl (key true φ w a none _ _ h3 hs rfl), .lit _, h2, Ext.refl _, Fr.refl _ _ _⟩
          · cases h
        · cases h
      · cases h
    · cases h
  · cases h
end Go.Ev
namespace Go.Ev
def litK : AV → Option Value
  | .lit (.int k n) => some (.int k n)
  | .lit (.bool b) => some (.bool b)
  | _ => none
def valsK : List AV → Option (List Value)
  | [] => some []
  | a :: r => match litK a, valsK r with
    | some v, some vs => some (v :: vs)
    | _, _ => none
def valK : AV → Option Value
  | .agg cs => match valsK cs with
    | some vs => some (.agg vs.toArray)
    | none => none
  | a => litK a
theorem litK_ok {φ : Fi} {a : AV} {u v : Value} (h : VR φ a u) (hv : litK a = some v) : u = v := by
  unfold litK at hv
  split at hv
  · cases hv; exact h.lit_inv
  · cases hv; exact h.lit_inv
  · cases hv
theorem valsK_ok {φ : Fi} : ∀ {as : List AV} {us vs : List Value}, VRL φ as us → valsK as = some vs → us = vs
  | _, _, vs, .nil, hv => by simp only [valsK, Option.some.injEq] at hv; exact hv
  | _, _, vs, .cons h t, hv => by
    simp only [valsK] at hv
    split at hv
    · rename_i v vs' h1 h2
      cases hv
      rw [litK_ok h h1, valsK_ok t h2]
    · cases hv
theorem valK_ok {φ : Fi} {a : AV} {u v : Value} (h : VR φ a u) (hv : valK a = some v) : u = v := by
  unfold valK at hv
  split at hv
  · rename_i cs
    obtain ⟨us, rfl, hl⟩ := h.agg_inv
    split at hv
    · rename_i vs hvs
      cases hv
      rw [valsK_ok hl hvs]
    · cases hv
  · exact litK_ok h hv
section
variable {P : Program} {T : Ti}
theorem OpsW.multi {rd : Option Nat} {ops : Array Oper} {i : Nat} {f : Fm} {st : St} {o : Oper} {outs : List (AV × St)} (ho : ops[i]? = some o) (hw : Region.wanted o (yA ops f.ts) = true) (hd : ∀ c, o.op ≠ .defer c)
    (hrun : ∀ (φ : Fi) (w : World) (a : Act), Rel φ st w → ActR φ f a → ∃ r st' φ' w' u, (r, st') ∈ outs ∧ ((execOp a.eval o).run P w = .ok (.value u) w' ∨ ((execOp a.eval o).run P w = .ok .skip w' ∧ u = undef)) ∧ VR φ' r u ∧ Rel φ' st' w' ∧ Ext φ φ' ∧ Fr φ st w φ' st' w') :
    OpsW P rd ops [i] (fun f' st' => ∃ v, f' = f.put o.dst v ∧ (v, st') ∈ outs) f st := by
  intro φ w a n Q h1 h2 h3 hQ
  simp only [wpOpsIn, ho]
  rw [yielded_eq h3, hw]
  simp only [if_true]
  refine ⟨fun _ _ => trivial, ?_⟩
  rw [semAt_eq hd]
  obtain ⟨r, st', φ', w', u, hm, hr, hv, hrel, he, hf⟩ := hrun φ w a h2 h3
  have h4 : Q .normal (a.put o.dst u) w' := hQ _ _ ⟨f.put o.dst r, st', φ', ⟨r, rfl, hm⟩, he, hrel, (h3.mono he).put o.dst hv, hf⟩
  rcases hr with hr | ⟨hr, rfl⟩
  · rw [hr]; exact h4
  · rw [hr]; exact h4
def idxs (k : AV) : Nat → List (AV × AV × Nat) → List Nat
  | _, [] => []
  | i, x :: r => if avEq x.1 k then i :: idxs k (i + 1) r else idxs k (i + 1) r
theorem idxs_mem {k : AV} : ∀ {l : List (AV × AV × Nat)} {i j : Nat}, j ∈ idxs k i l → ∃ x, l[j - i]? = some x ∧ i ≤ j ∧ avEq x.1 k = true
  | x :: r, i, j, h => by
    simp only [idxs] at h
    have rest : j ∈ idxs k (i + 1) r → ∃ y, (x :: r)[j - i]? = some y ∧ i ≤ j ∧ avEq y.1 k = true := fun h => by
      obtain ⟨y, h1, h2, h3⟩ := idxs_mem h
      refine ⟨y, ?_, by omega, h3⟩
      have : j - i = (j - (i + 1)) + 1 := by omega
      rw [this, List.getElem?_cons_succ]; exact h1
    split at h
    · rename_i he
      rcases List.mem_cons.1 h with rfl | h
      · exact ⟨x, by simp, Nat.le_refl _, he⟩
      · exact rest h
    · exact rest h
  | [], i, j, h => by cases h
theorem mem_idxs {k : AV} : ∀ {l : List (AV × AV × Nat)} {i j : Nat} {x : AV × AV × Nat}, l[j]? = some x → avEq x.1 k = true → i + j ∈ idxs k i l
  | y :: r, i, 0, x, h, he => by
    simp only [List.getElem?_cons_zero, Option.some.injEq] at h
    subst h
    simp only [idxs, he, if_true, Nat.add_zero, List.mem_cons_self]
  | y :: r, i, j + 1, x, h, he => by
    rw [List.getElem?_cons_succ] at h
    have := mem_idxs (i := i + 1) h he
    have e : i + (j + 1) = i + 1 + j := by omega
    rw [e]
    simp only [idxs]
    split
    · exact List.mem_cons_of_mem _ this
    · exact this
variable (P) in
def keyB (kt : TypeId) (a : AV) : Bool := match valK a with
  | some v => (keyOf P kt v).isSome
  | none => false
theorem litK_eq {a b : AV} {v : Value} (h : litK a = some v) (k : litK b = some v) : avEq a b = true := by
  unfold litK at h k
  split at h
  · split at k
    · cases h; cases k; simp [avEq, litEq]
    · cases h; cases k
    · cases k
  · split at k
    · cases h; cases k
    · cases h; cases k; simp [avEq, litEq]
    · cases k
  · cases h
theorem valsK_eq : ∀ {a b : List AV} {v : List Value}, valsK a = some v → valsK b = some v → avsEq a b = true
  | [], [], _, _, _ => by simp [avsEq]
  | [], y :: s, v, h, k => by
    simp only [valsK, Option.some.injEq] at h
    subst h
    simp only [valsK] at k
    split at k <;> cases k
  | x :: r, [], v, h, k => by
    simp only [valsK, Option.some.injEq] at k
    subst k
    simp only [valsK] at h
    split at h <;> cases h
  | x :: r, y :: s, v, h, k => by
    simp only [valsK] at h k
    split at h
    · rename_i v1 vs1 h1 h2
      cases h
      split at k
      · rename_i v2 vs2 k1 k2
        cases k
        simp [avsEq, litK_eq h1 k1, valsK_eq h2 k2]
      · cases k
    · cases h
theorem litK_agg {a : AV} {cs : Array Value} (h : litK a = some (.agg cs)) : False := by
  unfold litK at h
  split at h <;> cases h
theorem valK_eq {a b : AV} {v : Value} (h : valK a = some v) (k : valK b = some v) : avEq a b = true := by
  unfold valK at h k
  split at h
  · split at h
    · rename_i vs hvs
      cases h
      split at k
      · split at k
        · rename_i ws hws
          simp only [Option.some.injEq, Value.agg.injEq] at k
          have : ws = vs := by have := congrArg Array.toList k; simpa using this
          subst this
          simp [avEq, valsK_eq hvs hws]
        · cases k
      · exact (litK_agg k).elim
    · cases h
  · split at k
    · split at k
      · cases k
        exact (litK_agg h).elim
      · cases k
    · exact litK_eq h k
def esOf (st : St) (a : AV) : Option (Nat × List (AV × AV × Nat) × Nat) := match a with
  | .mp id => match st.h.get id with
    | some (.map es clock) => some (id, es, clock)
    | _ => none
  | _ => none
theorem esOf_ok {φ : Fi} {st : St} {w : World} {a : AV} {u : Value} {id clock : Nat} {es : List (AV × AV × Nat)} (hr : Rel φ st w) (ha : VR φ a u) (h : esOf st a = some (id, es, clock)) :
    u = .map (some (φ.f id).b) ∧ id < φ.n ∧ st.h.get id = some (.map es clock) ∧ ∃ ces : Array MapEntry, w.heap[(φ.f id).b]? = some (.map ces clock) ∧ ces.size = es.length ∧
      ∀ (i : Nat) (x : AV × AV × Nat), es[i]? = some x → ∃ e, ces[i]? = some e ∧ VR φ x.1 e.key ∧ VR φ x.2.1 e.val ∧ e.born = x.2.2 := by
  unfold esOf at h
  split at h
  · rename_i id'
    split at h
    · rename_i es' clock' ho
      cases h
      obtain ⟨h1, h2⟩ := ha.mp_inv
      exact ⟨h1, h2, ho, hr.obj _ _ ho⟩
    · cases h
  · cases h
def mapD (T : Ti) (t : TypeId) : Option TypeId := match T t with
  | some i => match i.desc with
    | .map k _ => some k
    | _ => none
  | none => none
theorem mapD_ok (hT : TOk P T) {t k : TypeId} (h : mapD T t = some k) : ∃ e, P.underlying t = some (.map k e) := by
  unfold mapD at h
  split at h
  · rename_i i hi
    split at h
    · rename_i k' e hd
      cases h
      exact ⟨e, by rw [← hd]; exact (hT t i hi).und⟩
    · cases h
  · cases h
theorem setHeap_ok {φ : Fi} {st : St} {w : World} (hr : Rel φ st w) {id : Nat} {o o' : AObj} (ho : st.h.get id = some o) (hown : o.own = true) (hfam : o.fam = none) (co : Obj) (w0 : World) (hw0 : w0 = w ∨ w0 = w.drew) (hobj : ∀ w' : World, w'.heap[(φ.f id).b]? = some co → ObjR φ w' id o') :
    Rel φ ⟨st.h.set id o', st.n⟩ { w0 with heap := w0.heap.setIfInBounds (φ.f id).b co } ∧ Fr φ st w φ ⟨st.h.set id o', st.n⟩ { w0 with heap := w0.heap.setIfInBounds (φ.f id).b co } := by
  have hb := hr.blk id o ho
  have hh : w0.heap = w.heap := by rcases hw0 with rfl | rfl <;> rfl
  have h1 : w0.os = w.os ∧ w0.tape = w.tape ∧ w0.output = w.output := by rcases hw0 with rfl | rfl <;> exact ⟨rfl, rfl, rfl⟩
  refine hr.turn ho hown hfam h1.1 h1.2.1 h1.2.2 (by simp [hh]) (fun k hk => ?_) (hobj _ ?_)
  · simp only [hh]; rw [Array.getElem?_setIfInBounds_ne (Ne.symm hk)]
  · simp only [hh]; simp [hb]
end
end Go.Ev
namespace Go.Ev
section
variable {P : Program} {T : Ti}
def itOf (st : St) (a : AV) : Option (Nat × Nat × Nat × List Nat × Nat) := match a with
  | .ptr rid 0 => match st.h.get rid with
    | some (.iter mid since seen last) => some (rid, mid, since, seen, last)
    | _ => none
  | _ => none
theorem itOf_ok {φ : Fi} {st : St} {w : World} {a : AV} {u : Value} {rid mid since last : Nat} {seen : List Nat} (hr : Rel φ st w) (ha : VR φ a u) (h : itOf st a = some (rid, mid, since, seen, last)) :
    u = .pointer (some ⟨(φ.f rid).b, 0, none⟩) ∧ st.h.get rid = some (.iter mid since seen last) ∧ w.heap[(φ.f rid).b]? = some (.mapIter (some (φ.f mid).b) since seen.toArray last) ∧ (φ.f rid).o = 0 ∧ mid < φ.n := by
  unfold itOf at h
  split at h
  · rename_i rid'
    split at h
    · rename_i mid' since' seen' last' ho
      cases h
      obtain ⟨h1, h2⟩ := ha.ptr_inv
      obtain ⟨h3, h4, h5⟩ := hr.obj _ _ ho
      exact ⟨by rw [h1, h4], ho, h3, h4, h5⟩
    · cases h
  · cases h
def bornsOk (es : List (AV × AV × Nat)) : Bool := decide ((es.map fun x => x.2.2).Nodup)
variable (P T) in
def xMap (KT : List TypeId) (st : St) (ρ : Operand → AV) (o : Oper) : Option (List (AV × St)) :=
  match o.op with
  | .makeMap _ none => some [(.mp st.n, st.push (.map [] 0))]
  | .mapUpdate t m k v => match mapD T t with
    | some kt => match esOf st (ρ m) with
      | some (id, es, clock) => if KT.contains kt && keyB P kt (ρ k) && es.all (fun x => keyB P kt x.1) then
          match idxs (ρ k) 0 es with
          | [] => some [(undA, ⟨st.h.set id (.map (es ++ [(ρ k, ρ v, clock)]) (clock + 1)), st.n⟩)]
          | [j] => match es[j]? with
            | some x => some [(undA, ⟨st.h.set id (.map (es.set j (ρ k, ρ v, x.2.2)) clock), st.n⟩)]
            | none => none
          | _ => none
        else none
      | none => none
    | none => none
  | .range t x => match mapD T t with
    | some _ => match esOf st (ρ x) with
      | some (id, _, clock) => some [(.ptr st.n 0, st.push (.iter id clock [] clock))]
      | none => none
    | none => none
  | .next it false => match itOf st (ρ it) with
    | some (rid, mid, since, seen, last) => match esOf st (.mp mid) with
      | some (_, es, clock) => if es.all (fun x => Nat.blt x.2.2 since) && Nat.ble since last then
          match es.filter (fun x => !(seen.contains x.2.2)) with
          | [] => some [(.tup [.lit (.bool false)], st)]
          | y :: ys => some ((y :: ys).map fun x => (.tup [.lit (.bool true), x.1, x.2.1], ⟨st.h.set rid (.iter mid since (seen ++ [x.2.2]) clock), st.n⟩))
        else none
      | none => none
    | none => none
  | .entry it => match itOf st (ρ it) with
    | some (_, mid, _, seen, last) => match esOf st (.mp mid), seen.getLast? with
      | some (_, es, clock), some s => if Nat.beq clock last && bornsOk es then
          match es.filter (fun x => Nat.beq x.2.2 s) with
          | [x] => some [(.tup [x.1, x.2.1], st)]
          | _ => none
        else none
      | _, _ => none
    | none => none
  | _ => none
theorem range_ok {hT : TOk P T} {φ : Fi} {st : St} {w : World} {t kt : TypeId} {a : AV} {u : Value} {id clock : Nat} {es : List (AV × AV × Nat)} (hr : Rel φ st w) (ha : VR φ a u) (hd : mapD T t = some kt) (h : esOf st a = some (id, es, clock)) :
    ∃ φ' w' v, (Instr.range t u).run P w = .ok v w' ∧ VR φ' (.ptr st.n 0) v ∧ Rel φ' (st.push (.iter id clock [] clock)) w' ∧ Ext φ φ' ∧ Fr φ st w φ' (st.push (.iter id clock [] clock)) w' := by
  obtain ⟨e, hu⟩ := mapD_ok hT hd
  obtain ⟨rfl, hid, ho, ces, hb, hsz, hes⟩ := esOf_ok hr ha h
  have hrun := run_range_map (P := P) w t kt e (φ.f id).b ces clock hu hb
  have hp := hr.push (.mapIter (some (φ.f id).b) clock #[] clock) (.iter id clock [] clock) ⟨w.heap.size, 0, 0⟩ rfl (by
    refine ⟨?_, by rw [Fi.push_new], by rw [Fi.push_n]; exact Nat.lt_succ_of_lt hid⟩
    rw [Fi.push_new, (φ.push_ext _).f id hid]
    exact alloc_heap_new' w _)
  refine ⟨_, _, _, hrun, ?_, hp.1, φ.push_ext _, hp.2⟩
  have hv := VR.ptr (φ := φ.push ⟨w.heap.size, 0, 0⟩) φ.n 0 (by rw [Fi.push_n]; omega)
  rw [Fi.push_new] at hv
  rw [← hr.n]
  exact hv
theorem left_ok {φ : Fi} {es : List (AV × AV × Nat)} {ces : Array MapEntry} {seen : List Nat} (hsz : ces.size = es.length) (hes : ∀ (i : Nat) (x : AV × AV × Nat), es[i]? = some x → ∃ e, ces[i]? = some e ∧ VR φ x.1 e.key ∧ VR φ x.2.1 e.val ∧ e.born = x.2.2) {e : MapEntry} (he : e ∈ ces.toList) :
    ∃ x ∈ es, VR φ x.1 e.key ∧ VR φ x.2.1 e.val ∧ e.born = x.2.2 := by
  obtain ⟨i, hi, he2⟩ := List.getElem_of_mem he
  have hil : i < es.length := by rw [← hsz]; simpa using hi
  obtain ⟨e', h1, h2, h3, h4⟩ := hes i es[i] (List.getElem?_eq_getElem hil)
  have : e' = e := by
    rw [← Array.getElem?_toList, List.getElem?_eq_getElem hi, he2] at h1
    exact (Option.some.inj h1).symm
  subst this
  exact ⟨es[i], List.getElem_mem hil, h2, h3, h4⟩
theorem right_ok {φ : Fi} {es : List (AV × AV × Nat)} {ces : Array MapEntry} (hes : ∀ (i : Nat) (x : AV × AV × Nat), es[i]? = some x → ∃ e, ces[i]? = some e ∧ VR φ x.1 e.key ∧ VR φ x.2.1 e.val ∧ e.born = x.2.2) {x : AV × AV × Nat} (hx : x ∈ es) :
    ∃ e ∈ ces.toList, VR φ x.1 e.key ∧ VR φ x.2.1 e.val ∧ e.born = x.2.2 := by
  obtain ⟨i, hi, rfl⟩ := List.getElem_of_mem hx
  obtain ⟨e, h1, h2⟩ := hes i _ (List.getElem?_eq_getElem hi)
  rw [← Array.getElem?_toList] at h1
  exact ⟨e, List.mem_of_getElem? h1, h2⟩
theorem next_ok {φ : Fi} {st : St} {w : World} {ty : TypeId} {a : AV} {u : Value} {rid mid since last id clock : Nat} {seen : List Nat} {es : List (AV × AV × Nat)} (hr : Rel φ st w) (ha : VR φ a u) (h : itOf st a = some (rid, mid, since, seen, last)) (he : esOf st (.mp mid) = some (id, es, clock))
    (hc : (es.all (fun x => Nat.blt x.2.2 since) && Nat.ble since last) = true) :
    ((es.filter fun x => !(seen.contains x.2.2)) = [] ∧ (Instr.next u false ty).run P w = .ok (.tuple #[.bool false]) w) ∨
    ∃ x ∈ (es.filter fun x => !(seen.contains x.2.2)), ∃ w' v, (Instr.next u false ty).run P w = .ok v w' ∧ VR φ (.tup [.lit (.bool true), x.1, x.2.1]) v ∧
      Rel φ ⟨st.h.set rid (.iter mid since (seen ++ [x.2.2]) clock), st.n⟩ w' ∧ Fr φ st w φ ⟨st.h.set rid (.iter mid since (seen ++ [x.2.2]) clock), st.n⟩ w' := by
  obtain ⟨rfl, ho, hit, h0, hmid⟩ := itOf_ok hr ha h
  obtain ⟨hu, hid, hom, ces, hb, hsz, hes⟩ := esOf_ok hr (VR.mp mid hmid) he
  have hbb : (φ.f id).b = (φ.f mid).b := by simp only [Value.map.injEq, Option.some.injEq] at hu; exact hu.symm
  rw [hbb] at hb
  simp only [Bool.and_eq_true] at hc
  have hold : ∀ x ∈ ces.toList, x.born < since := fun e hem => by
    obtain ⟨x, hx, _, _, h4⟩ := left_ok (seen := []) hsz hes hem
    rw [h4]
    exact Nat.le_of_ble_eq_true (List.all_eq_true.1 hc.1 x hx)
  rcases run_next_at (P := P) w ty (φ.f rid).b (φ.f mid).b since last seen.toArray ces clock hit hb hold (Nat.le_of_ble_eq_true hc.2) with ⟨h1, h2⟩ | ⟨e, hel, w1, hw1, hrun⟩
  · left
    refine ⟨?_, h2⟩
    rw [List.filter_eq_nil_iff]
    intro x hx hns
    obtain ⟨e, hem, _, _, h4⟩ := right_ok hes hx
    have h5 : leftOf ces seen.toArray = #[] := Array.eq_empty_of_size_eq_zero h1
    unfold leftOf at h5
    rw [Array.filter_eq_empty_iff] at h5
    have := h5 e (Array.mem_toList_iff.1 hem)
    rw [h4] at this
    simp at this hns
    exact hns this
  · right
    unfold leftOf at hel
    have hel2 : e ∈ ces.toList ∧ seen.contains e.born = false := by simpa using hel
    obtain ⟨x, hx, h2, h3, h4⟩ := left_ok (seen := []) hsz hes hel2.1
    refine ⟨x, List.mem_filter.2 ⟨hx, by rw [← h4]; show (!seen.contains e.born) = true; rw [hel2.2]; rfl⟩, _, _, hrun, ?_, ?_⟩
    · exact .tup (us := [.bool true, e.key, e.val]) (.cons (.lit _) (.cons h2 (.cons h3 .nil)))
    · have := setHeap_ok (o' := .iter mid since (seen ++ [x.2.2]) clock) hr ho rfl rfl (.mapIter (some (φ.f mid).b) since (seen.toArray.push e.born) clock) w1 hw1 (fun w' hw' => ⟨by rw [hw', h4]; simp, h0, hmid⟩)
      exact this
theorem entry_ok {φ : Fi} {st : St} {w : World} {a : AV} {u : Value} {rid mid since last id clock s : Nat} {seen : List Nat} {es : List (AV × AV × Nat)} {x : AV × AV × Nat} (hr : Rel φ st w) (ha : VR φ a u) (h : itOf st a = some (rid, mid, since, seen, last)) (he : esOf st (.mp mid) = some (id, es, clock))
    (hs : seen.getLast? = some s) (hc : (Nat.beq clock last && bornsOk es) = true) (hf : es.filter (fun x => Nat.beq x.2.2 s) = [x]) :
    ∃ v, (Instr.entry u).run P w = .ok v w ∧ VR φ (.tup [x.1, x.2.1]) v := by
  obtain ⟨rfl, ho, hit, h0, hmid⟩ := itOf_ok hr ha h
  obtain ⟨hu, hid, hom, ces, hb, hsz, hes⟩ := esOf_ok hr (VR.mp mid hmid) he
  have hbb : (φ.f id).b = (φ.f mid).b := by simp only [Value.map.injEq, Option.some.injEq] at hu; exact hu.symm
  rw [hbb] at hb
  simp only [Bool.and_eq_true, bornsOk, decide_eq_true_eq] at hc
  have hcl := Nat.eq_of_beq_eq_true hc.1
  have hxm : x ∈ es.filter (fun x => Nat.beq x.2.2 s) := by rw [hf]; simp
  rw [List.mem_filter] at hxm
  have hxs := Nat.eq_of_beq_eq_true hxm.2
  obtain ⟨e, hem, h2, h3, h4⟩ := right_ok hes hxm.1
  have hborns : ces.toList.map (·.born) = es.map fun x => x.2.2 := by
    apply List.ext_getElem
    · simp [hsz]
    · intro i h1 h2
      simp only [List.length_map] at h1 h2
      obtain ⟨e, k1, _, _, k4⟩ := hes i es[i] (List.getElem?_eq_getElem h2)
      rw [List.getElem_map, List.getElem_map, ← k4]
      rw [← Array.getElem?_toList, List.getElem?_eq_getElem h1] at k1
      rw [Option.some.inj k1]
  have hseen : seen.toArray = seen.dropLast.toArray.push e.born := by
    obtain ⟨ys, hys⟩ := List.getLast?_eq_some_iff.1 hs
    rw [h4, hxs]
    subst hys
    simp
  have hrun := run_entry_at (P := P) w (φ.f rid).b (φ.f mid).b since seen.dropLast.toArray ces clock e (by rw [← hseen, hcl]; exact hit) hb hem (by rw [hborns]; exact hc.2)
  exact ⟨_, hrun, .tup (us := [e.key, e.val]) (.cons h2 (.cons h3 .nil))⟩
theorem update_ok {hT : TOk P T} {φ : Fi} {st : St} {w : World} {t kt : TypeId} {a k v : AV} {u ku vu : Value} {id clock : Nat} {es : List (AV × AV × Nat)} {outs : List (AV × St)} (hK : Maps.Keyed P kt) (hr : Rel φ st w) (ha : VR φ a u) (hku : VR φ k ku) (hvu : VR φ v vu) (hd : mapD T t = some kt) (h : esOf st a = some (id, es, clock))
    (hc : (keyB P kt k && es.all (fun x => keyB P kt x.1)) = true)
    (ho : (match idxs k 0 es with
      | [] => some [(undA, (⟨st.h.set id (.map (es ++ [(k, v, clock)]) (clock + 1)), st.n⟩ : St))]
      | [j] => match es[j]? with
        | some x => some [(undA, ⟨st.h.set id (.map (es.set j (k, v, x.2.2)) clock), st.n⟩)]
        | none => none
      | _ => none) = some outs) :
    ∃ st' w', (undA, st') ∈ outs ∧ (Instr.mapUpdate t u ku vu).run P w = .ok () w' ∧ Rel φ st' w' ∧ Fr φ st w φ st' w' := by
  obtain ⟨e, hu⟩ := mapD_ok hT hd
  obtain ⟨rfl, hid, hom, ces, hb, hsz, hes⟩ := esOf_ok hr ha h
  simp only [Bool.and_eq_true] at hc
  have hkey : ∀ {b : AV} {bu : Value}, keyB P kt b = true → VR φ b bu → valK b = some bu ∧ ∃ l, keyOf P kt bu = some l := fun {b bu} h1 h2 => by
    unfold keyB at h1
    split at h1
    · rename_i v' hv'
      have := valK_ok h2 hv'
      subst this
      exact ⟨hv', Option.isSome_iff_exists.1 h1⟩
    · cases h1
  obtain ⟨hkv, lx, hlx⟩ := hkey hc.1 hku
  have hall : ∀ e ∈ ces.toList, ∃ l, keyOf P kt e.key = some l := fun e he => by
    obtain ⟨x, hx, h2, _, _⟩ := left_ok (seen := []) hsz hes he
    exact (hkey (List.all_eq_true.1 hc.2 x hx) h2).2
  have hfind := hK.find w hlx ces.toList hall
  have hcheck := hK.check w false hlx
  have hst : st.h.get id = some (.map es clock) := hom
  rcases hfind with ⟨hrun, hne⟩ | ⟨j, e0, hrun, hj, hje⟩
  ·
    have hnil : idxs k 0 es = [] := by
      cases hq : idxs k 0 es with
      | nil => rfl
      | cons i r =>
        exfalso
        obtain ⟨x, h1, _, h3⟩ := idxs_mem (show i ∈ idxs k 0 es by rw [hq]; simp)
        obtain ⟨e, hem, h4, _, _⟩ := right_ok hes (List.mem_of_getElem? h1)
        have h5 := avEq_ok h3
        rw [h5] at h4
        exact hne e hem (valK_ok h4 hkv)
    rw [hnil] at ho
    cases ho
    have := setHeap_ok (o' := .map (es ++ [(k, v, clock)]) (clock + 1)) hr hst rfl rfl (.map (ces.push { key := ku, val := vu, born := clock }) (clock + 1)) w (.inl rfl) (fun w' hw' => ⟨_, hw', by simp [hsz], fun i x hx => by
      by_cases hi : i < es.length
      · rw [List.getElem?_append_left hi] at hx
        obtain ⟨e, k1, k2⟩ := hes i x hx
        exact ⟨e, by rw [Array.getElem?_push_lt (by omega), ← k1, Array.getElem?_eq_getElem (by omega)], k2⟩
      · rw [List.getElem?_append_right (by omega)] at hx
        have hie : i = es.length := by
          rcases Nat.lt_or_ge (i - es.length) 1 with h | h
          · omega
          · simp [List.getElem?_eq_none (show [(k, v, clock)].length ≤ i - es.length by simpa using h)] at hx
        subst hie
        simp only [Nat.sub_self, List.getElem?_cons_zero, Option.some.injEq] at hx
        subst hx
        exact ⟨{ key := ku, val := vu, born := clock }, by rw [← hsz]; simp, hku, hvu, rfl⟩⟩)
    refine ⟨_, _, List.mem_singleton.2 rfl, ?_, this.1, this.2⟩
    simp [Instr.mapUpdate, run_underlying hu, MapKept.run_getObj_map hb, hcheck, hrun, MapKept.run_setObj_map _ hb, Result.andThen]
  · have hjl : j < es.length := by
      have : j < ces.toList.length := (List.getElem?_eq_some_iff.1 hj).1
      rw [← hsz]; simpa using this
    have hjc : ces[j]? = some e0 := by rw [← Array.getElem?_toList]; exact hj
    obtain ⟨e', k1, k2, k3, k4⟩ := hes j es[j] (List.getElem?_eq_getElem hjl)
    have hee : e' = e0 := by rw [hjc] at k1; exact (Option.some.inj k1).symm
    subst hee
    have hmem : 0 + j ∈ idxs k 0 es := mem_idxs (List.getElem?_eq_getElem hjl) (by
      have h5 := (hkey (List.all_eq_true.1 hc.2 es[j] (List.getElem_mem hjl)) k2).1
      rw [hje] at h5
      exact valK_eq h5 hkv)
    rw [Nat.zero_add] at hmem
    split at ho
    · rename_i hq; rw [hq] at hmem; cases hmem
    · rename_i j' hq
      rw [hq] at hmem
      have : j = j' := by simpa using hmem
      subst this
      rw [List.getElem?_eq_getElem hjl] at ho
      cases ho
      have := setHeap_ok (o' := .map (es.set j (k, v, es[j].2.2)) clock) hr hst rfl rfl (.map (ces.modify j fun e => { e with key := ku, val := vu }) clock) w (.inl rfl) (fun w' hw' => ⟨_, hw', by simp [hsz], fun i x hx => by
        by_cases hi : i = j
        · subst hi
          rw [List.getElem?_set_self hjl] at hx
          cases hx
          exact ⟨{ e' with key := ku, val := vu }, by simp [Array.getElem?_modify, hjc], hku, hvu, k4⟩
        · rw [List.getElem?_set_ne (Ne.symm hi)] at hx
          obtain ⟨e, q1, q2⟩ := hes i x hx
          exact ⟨e, by simp [Array.getElem?_modify, Ne.symm hi, q1], q2⟩⟩)
      refine ⟨_, _, List.mem_singleton.2 rfl, ?_, this.1, this.2⟩
      have hstay := hK.stays w hlx
      simp [Instr.mapUpdate, run_underlying hu, MapKept.run_getObj_map hb, hcheck, hrun, hjc, hje, hstay, MapKept.run_setObj_map _ hb, Result.andThen]
    · cases ho
theorem xMap_ok (hT : TOk P T) {KT : List TypeId} (hK : ∀ k ∈ KT, Maps.Keyed P k) : XOk P (xMap P T KT) := by
  intro rd ops i f st o outs ho hw h
  unfold xMap at h
  split at h
  ·
    rename_i t hx
    cases h
    refine OpsW.multi ho hw (fun c hc => by rw [hx] at hc; cases hc) fun φ w a h2 h3 => ?_
    have hp := h2.push (.map #[] 0) (.map [] 0) ⟨w.heap.size, 0, 0⟩ rfl ⟨#[], by rw [Fi.push_new]; exact alloc_heap_new' w _, rfl, fun i x hx => by simp at hx⟩
    refine ⟨_, _, _, _, _, List.mem_singleton.2 rfl, .inl (by simp only [execOp, hx]; simp [Instr.makeMap, Sem.run_bind, Result.andThen]; rfl), ?_, hp.1, φ.push_ext _, hp.2⟩
    have hv := VR.mp (φ := φ.push ⟨w.heap.size, 0, 0⟩) φ.n (by rw [Fi.push_n]; omega)
    rw [Fi.push_new] at hv
    rw [← h2.n]
    exact hv
  ·
    rename_i t m k v hx
    split at h
    · rename_i kt hkt
      split at h
      · rename_i id es clock hes
        split at h
        · rename_i hc
          simp only [Bool.and_eq_true] at hc
          refine OpsW.multi ho hw (fun c hc => by rw [hx] at hc; cases hc) fun φ w a h2 h3 => ?_
          have hρ := opR_of h3.ts
          obtain ⟨st', w', k1, k2, k3, k4⟩ := update_ok (hT := hT) (hK kt (List.contains_iff_mem.1 hc.1.1)) h2 (hρ m) (hρ k) (hρ v) hkt hes (by simp only [Bool.and_eq_true]; exact ⟨hc.1.2, hc.2⟩) h
          exact ⟨_, _, φ, w', undef, k1, .inr ⟨by simp [execOp, hx, k2, Result.andThen], rfl⟩, .lit _, k3, Ext.refl _, k4⟩
        · cases h
      · cases h
    · cases h
  · rename_i t x hx
    split at h
    · rename_i kt hkt
      split at h
      · rename_i id es clock hes
        cases h
        refine OpsW.multi ho hw (fun c hc => by rw [hx] at hc; cases hc) fun φ w a h2 h3 => ?_
        obtain ⟨φ', w', u, k1, k2, k3, k4, k5⟩ := range_ok (hT := hT) h2 (opR_of h3.ts x) hkt hes
        exact ⟨_, _, φ', w', u, List.mem_singleton.2 rfl, .inl (by simp [execOp, hx, k1, Result.andThen]), k2, k3, k4, k5⟩
      · cases h
    · cases h
  · rename_i it hx
    split at h
    · rename_i rid mid since seen last hit
      split at h
      · rename_i id es clock hes
        split at h
        · rename_i hc
          refine OpsW.multi ho hw (fun c hc => by rw [hx] at hc; cases hc) fun φ w a h2 h3 => ?_
          rcases next_ok (P := P) (ty := o.type) h2 (opR_of h3.ts it) hit hes hc with ⟨k1, k2⟩ | ⟨x, hxm, w', v, k2, k3, k4, k5⟩
          · rw [k1] at h
            cases h
            exact ⟨_, _, φ, w, _, List.mem_singleton.2 rfl, .inl (by simp [execOp, hx, k2, Result.andThen]), .tup (us := [.bool false]) (.cons (.lit _) .nil), h2, Ext.refl _, Fr.refl _ _ _⟩
          · split at h
            · rename_i hq; rw [hq] at hxm; cases hxm
            · rename_i y ys hq
              cases h
              rw [hq] at hxm
              exact ⟨_, _, φ, w', v, List.mem_map_of_mem hxm, .inl (by simp [execOp, hx, k2, Result.andThen]), k3, k4, Ext.refl _, k5⟩
        · cases h
      · cases h
    · cases h
  · rename_i it hx
    split at h
    · rename_i rid mid since seen last hit
      split at h
      · rename_i id es clock s hes hs
        split at h
        · rename_i hc
          split at h
          · rename_i x hf
            cases h
            refine OpsW.multi ho hw (fun c hc => by rw [hx] at hc; cases hc) fun φ w a h2 h3 => ?_
            obtain ⟨v, k1, k2⟩ := entry_ok (P := P) h2 (opR_of h3.ts it) hit hes hs hc hf
            exact ⟨_, _, φ, w, v, List.mem_singleton.2 rfl, .inl (by simp [execOp, hx, k1, Result.andThen]), k2, h2, Ext.refl _, Fr.refl _ _ _⟩
          · cases h
        · cases h
      · cases h
    · cases h
  · cases h
def xOr (X Y : St → (Operand → AV) → Oper → Option (List (AV × St))) (st : St) (ρ : Operand → AV) (o : Oper) : Option (List (AV × St)) := match X st ρ o with
  | some r => some r
  | none => Y st ρ o
theorem xOr_ok {X Y : St → (Operand → AV) → Oper → Option (List (AV × St))} (hX : XOk P X) (hY : XOk P Y) : XOk P (xOr X Y) := by
  intro rd ops i f st o outs ho hw h
  unfold xOr at h
  split at h
  · rename_i r hr; cases h; exact hX rd ops i f st o _ ho hw hr
  · exact hY rd ops i f st o _ ho hw h
end
end Go.Ev
namespace Go.Ev
section
variable {P : Program} {T : Ti}
def xEnd (T : Ti) (st : St) (ρ : Operand → AV) (o : Oper) : Option (List (AV × St)) :=
  match o.op with
  | .slice t x (some lo) none none => match T t with
    | some i => match i.desc with
      | .slice e => match T e with
        | some j => match ρ x with
          | .sl id off len sz _ => if j.size = sz ∧ natOf (ρ lo) = some len then some [(.sl id off 0 sz true, st), (.sl id (off + len * sz) 0 sz false, st)] else none
          | _ => none
        | none => none
      | _ => none
    | none => none
  | _ => none
theorem xEnd_ok (hT : TOk P T) : XOk P (xEnd T) := by
  intro rd ops i f st o outs ho hw h
  have hadd : ∀ (b o n : Nat), Addr.add ⟨b, o, none⟩ n = ⟨b, o + n, none⟩ := fun b o n => by unfold Addr.add; split <;> simp_all
  unfold xEnd at h
  split at h
  · rename_i t x lo hx
    split at h
    · rename_i ti hti
      split at h
      · rename_i e hd
        split at h
        · rename_i j hj
          split at h
          · rename_i id off len sz ex hxv
            split at h
            · rename_i hc
              obtain ⟨hsz, hlo⟩ := hc
              subst hsz
              cases h
              refine OpsW.multi ho hw (fun c hc => by rw [hx] at hc; cases hc) fun φ w a h2 h3 => ?_
              have hρ := opR_of h3.ts
              have hxx := hρ x
              rw [hxv] at hxx
              obtain ⟨cap, hv, hid, hcap, hex, hbnd⟩ := hxx.sl_inv
              have hb := bounds_ok (P := P) (s := true) (len := len) (cap := cap) (m := cap) (lo := some lo) (hi := none) (mx := none) hρ (by simpa [natOr] using hlo) rfl (.inl ⟨rfl, rfl⟩) (Nat.le_refl _) hcap (Nat.le_refl _) w
              simp only [Option.map_some, Option.map_none] at hb
              have hrun : (execOp a.eval o).run P w = .ok (.value (.slice (if cap = len then some ⟨(φ.f id).b, (φ.f id).o + off, none⟩ else some ⟨(φ.f id).b, (φ.f id).o + (off + len * j.size), none⟩) 0 (cap - len))) w := by
                simp only [execOp, hx, Option.map_some, Option.map_none, Instr.sliceAt, Sem.run_bind, run_und hT hti, hd, Result.andThen, Instr.slice, hv, hb, run_size hT hj, Sem.run_pure]
                by_cases hl : cap = len
                · simp [hl]
                · simp [hl, hadd, Nat.add_assoc]
              by_cases hl : cap = len
              · rw [if_pos hl] at hrun
                exact ⟨_, st, φ, w, _, List.mem_cons_self, .inl hrun, by
                  rw [hl, Nat.sub_self]
                  exact .sl id off 0 j.size true 0 hid (Nat.le_refl _) (fun _ => rfl) (by omega), h2, Ext.refl _, Fr.refl _ _ _⟩
              · rw [if_neg hl] at hrun
                exact ⟨_, st, φ, w, _, List.mem_cons_of_mem _ (List.mem_singleton.2 rfl), .inl hrun, .sl id (off + len * j.size) 0 j.size false (cap - len) hid (Nat.zero_le _) (fun h => by cases h) (by
                  have : len * j.size + (cap - len) * j.size = cap * j.size := by rw [← Nat.add_mul]; congr 1; omega
                  omega), h2, Ext.refl _, Fr.refl _ _ _⟩
            · cases h
          · cases h
        · cases h
      · cases h
    · cases h
  · cases h
end
end Go.Ev
namespace Go.Ev
def famB (g : Nat) (o : AObj) : Bool := match o.fam with
  | some k => Nat.beq k g
  | none => false
def keepF (h : Hp) (g id i : Nat) : Bool := Nat.beq i id || (match h.get i with
  | some o => !famB g o
  | none => true)
def ownSt (st : St) (id : Nat) : Option (List AV × St) := match st.h.get id with
  | some (.cells none false cs) => some (cs, st)
  | some (.cells (some g) false cs) => some (cs, ⟨(st.keep (keepF st.h g id)).h.set id (.cells none false cs), st.n⟩)
  | _ => none
section
variable {P : Program} {T : Ti}
theorem get_keep_self {p : Nat → Bool} {h : Hp} {id : Nat} (hp : p id = true) : Hp.get (h.filter fun x => p x.1) id = h.get id := by
  induction h with
  | nil => rfl
  | cons x r ih =>
    rw [List.filter_cons]
    by_cases hx : x.1 = id
    · have : p x.1 = true := by rw [hx]; exact hp
      rw [if_pos this]
      obtain ⟨i, o⟩ := x
      simp only at hx
      subst hx
      simp [Hp.get]
    · split
      · obtain ⟨i, o⟩ := x
        simp only [Hp.get] at hx ⊢
        rw [if_neg hx, if_neg hx, ih]
      · obtain ⟨i, o⟩ := x
        simp only [Hp.get] at hx ⊢
        rw [if_neg hx, ih]
theorem get_keep_p {p : Nat → Bool} {h : Hp} {id : Nat} {o : AObj} (hg : Hp.get (h.filter fun x => p x.1) id = some o) : p id = true := by
  induction h with
  | nil => cases hg
  | cons x r ih =>
    rw [List.filter_cons] at hg
    split at hg
    · rename_i hp
      obtain ⟨i, y⟩ := x
      simp only [Hp.get] at hg
      split at hg
      · rename_i hi; subst hi; exact hp
      · exact ih hg
    · exact ih hg
theorem own_ok {φ : Fi} {st st1 : St} {w : World} {id : Nat} {cs : List AV} (hr : Rel φ st w) (h : ownSt st id = some (cs, st1)) : Rel φ st1 w ∧ Fr φ st w φ st1 w ∧ st1.h.get id = some (.cells none false cs) ∧ st1.n = st.n := by
  unfold ownSt at h
  split at h
  · rename_i cs' ho
    cases h
    exact ⟨hr, Fr.refl _ _ _, ho, rfl⟩
  · rename_i g cs' ho
    cases h
    have hk := hr.keep (keepF st.h g id)
    have hpid : keepF st.h g id id = true := by simp [keepF]
    have hid : (st.keep (keepF st.h g id)).h.get id = some (.cells (some g) false cs) := by
      show Hp.get (st.h.filter fun x => keepF st.h g id x.1) id = _
      rw [get_keep_self hpid]; exact ho
    have hother : ∀ j oj, (st.keep (keepF st.h g id)).h.get j = some oj → j ≠ id → oj.fam ≠ some g := fun j oj hj hne hf => by
      have hp : keepF st.h g id j = true := get_keep_p hj
      have hj' : st.h.get j = some oj := Hp.get_filter hj
      unfold keepF at hp
      rw [hj'] at hp
      have hb : Nat.beq j id = false := by
        cases hq : Nat.beq j id with
        | false => rfl
        | true => exact absurd (Nat.eq_of_beq_eq_true hq) hne
      rw [hb] at hp
      simp [famB, hf] at hp
    have hget : ∀ j x, ((st.keep (keepF st.h g id)).h.set id (.cells none false cs)).get j = some x → (j = id ∧ x = .cells none false cs) ∨ (j ≠ id ∧ (st.keep (keepF st.h g id)).h.get j = some x) := fun j x hx => by
      rw [Hp.get_set] at hx
      split at hx
      · rename_i hc; left; exact ⟨hc.1, (Option.some.inj hx).symm⟩
      · rename_i hc
        right
        exact ⟨fun e => hc ⟨e, by rw [hid]; rfl⟩, hx⟩
    have hset : ((st.keep (keepF st.h g id)).h.set id (.cells none false cs)).get id = some (.cells none false cs) := by
      rw [Hp.get_set, if_pos ⟨rfl, by rw [hid]; rfl⟩]
    refine ⟨⟨hk.n, fun j x hx => ?_, fun j x hx => ?_, fun j x hx => ?_, fun i j oi oj hi hj hij ho' => ?_⟩, ⟨rfl, rfl, rfl, Nat.le_refl _, fun _ _ _ => rfl, fun k ⟨j, x, hx, hxo, hb⟩ => .inl ?_⟩, hset, rfl⟩
    · rcases hget j x hx with ⟨rfl, _⟩ | ⟨_, h1⟩
      · exact hk.lt _ _ hid
      · exact hk.lt _ _ h1
    · rcases hget j x hx with ⟨rfl, _⟩ | ⟨_, h1⟩
      · exact hk.blk _ _ hid
      · exact hk.blk _ _ h1
    · rcases hget j x hx with ⟨rfl, rfl⟩ | ⟨_, h1⟩
      · have := hk.obj _ _ hid; exact this
      · exact hk.obj _ _ h1
    · intro hb
      rcases hget i oi hi with ⟨rfl, rfl⟩ | ⟨hni, h1⟩ <;> rcases hget j oj hj with ⟨rfl, rfl⟩ | ⟨hnj, h2⟩
      · exact absurd rfl hij
      · exfalso
        obtain ⟨⟨f, hf, hf2⟩, _⟩ := hk.sep _ j _ oj hid h2 hij rfl hb
        have hfg : g = f := Option.some.inj hf
        subst hfg
        exact hother j oj h2 hnj hf2
      · exfalso
        obtain ⟨⟨f, hf, hf2⟩, _⟩ := hk.sep i _ oi _ h1 hid hij ho' hb
        have hfg : g = f := Option.some.inj hf2
        subst hfg
        exact hother i oi h1 hni hf
      · exact hk.sep i j oi oj h1 h2 hij ho' hb
    · rcases hget j x hx with ⟨rfl, rfl⟩ | ⟨_, h1⟩
      · exact ⟨_, _, ho, rfl, hb⟩
      · exact ⟨j, x, Hp.get_filter h1, hxo, hb⟩
  · cases h
theorem sets_ok {φ : Fi} {st : St} {w : World} {id off : Nat} {cs as : List AV} {vs : List Value} (hr : Rel φ st w) (ho : st.h.get id = some (.cells none false cs)) (hv : VRL φ as vs) (c3 : as.all AV.one = true) (c2 : off + as.length ≤ cs.length) :
    ∃ w', (storeCells ⟨(φ.f id).b, (φ.f id).o + off, none⟩ vs).run P w = .ok () w' ∧ Rel φ ⟨st.h.set id (.cells none false (setsL cs off as)), st.n⟩ w' ∧ Fr φ st w φ ⟨st.h.set id (.cells none false (setsL cs off as)), st.n⟩ w' := by
  obtain ⟨hcell, hblk⟩ := hr.obj id _ ho
  obtain ⟨c, ty, hb, hcn, hcl⟩ := hblk rfl
  have hvl := hv.length
  have hrun := run_storeCells_at P (φ.f id).b ((φ.f id).o + off) ty vs 0 c w hb (by simp only [Nat.add_zero]; omega) (hv.one c3)
  simp only [Nat.add_zero] at hrun
  refine ⟨w.setRow (φ.f id).b (c.toList.take ((φ.f id).o + off) ++ vs ++ c.toList.drop ((φ.f id).o + off + vs.length)).toArray, hrun, ?_⟩
  refine hr.turn (id := id) (o := .cells none false cs) (o' := .cells none false (setsL cs off as)) ho rfl rfl rfl rfl rfl (setRow_size _ _ _) (fun k hk => setRow_other w _ k _ hk) ?_
  have hcl' : c.toList.length = (φ.f id).n := by simp [hcn]
  refine ⟨fun k a ha => ?_, fun _ => ⟨_, ty, setRow_heap w _ c _ ty (0, 0) hb, ?_, by rw [setsL_length]; exact hcl⟩⟩
  · have hnew : ∀ j, (w.setRow (φ.f id).b (c.toList.take ((φ.f id).o + off) ++ vs ++ c.toList.drop ((φ.f id).o + off + vs.length)).toArray).cell? ⟨(φ.f id).b, j, none⟩ =
        if (φ.f id).o + off ≤ j ∧ j < (φ.f id).o + off + vs.length then vs[j - ((φ.f id).o + off)]? else c[j]? := fun j => by
      unfold World.cell?
      simp only [setRow_heap w _ c _ ty (0, 0) hb]
      rw [← Array.getElem?_toList (xs := c), ← splice_get c.toList vs ((φ.f id).o + off) j (by rw [hcl']; omega)]
      simp
    rw [setsL_get _ _ _ _ c2] at ha
    rw [hnew]
    split at ha
    · rename_i hk
      rw [if_pos (by omega)]
      obtain ⟨u, hu, hru⟩ := hv.get _ _ ha
      exact ⟨u, by rw [show (φ.f id).o + k - ((φ.f id).o + off) = k - off from by omega]; exact hu, hru⟩
    · rename_i hk
      rw [if_neg (by omega)]
      obtain ⟨u, hu, hru⟩ := hcell k a ha
      refine ⟨u, ?_, hru⟩
      unfold World.cell? at hu
      simpa [hb] using hu
  · simp only [List.size_toArray, List.length_append, List.length_take, List.length_drop, hcl']
    omega
def xSto (T : Ti) (st : St) (ρ : Operand → AV) (o : Oper) : Option (List (AV × St)) := match o.op with
  | .store t p v => match ρ p with
    | .ptr id _ => match ownSt st id with
      | some (_, st1) => match storeA T st1 t (ρ p) (ρ v) with
        | some s => some [(undA, s)]
        | none => none
      | none => none
    | _ => none
  | _ => none
theorem xSto_ok (hT : TOk P T) : XOk P (xSto T) := by
  intro rd ops i f st o outs ho hw h
  unfold xSto at h
  split at h
  · rename_i t p v hx
    split at h
    · rename_i id off hp
      split at h
      · rename_i cs st1 hown
        split at h
        · rename_i s hs
          cases h
          refine OpsW.multi ho hw (fun c hc => by rw [hx] at hc; cases hc) fun φ w a h2 h3 => ?_
          have hρ := opR_of h3.ts
          obtain ⟨k1, k2, _, _⟩ := own_ok h2 hown
          obtain ⟨w', h4, h5, h6, _⟩ := store_ok (P := P) hT k1 (hρ p) (hρ v) hs
          exact ⟨_, _, φ, w', undef, List.mem_singleton.2 rfl, .inr ⟨by simp [execOp, hx, h4, Result.andThen], rfl⟩, .lit _, h5, Ext.refl _, k2.trans h6⟩
        · cases h
      · cases h
    · cases h
  · cases h
def xCopy (T : Ti) (st : St) (ρ : Operand → AV) (o : Oper) : Option (List (AV × St)) := match o.op with
  | .call c => match c.callee, c.args.toList, c.argTypes.toList with
    | .builtin .copy, [d, s], [dt, _] => match T dt with
      | some i => match i.desc with
        | .slice e => match T e with
          | some j => match ρ d with
            | .sl id off len _ _ => match slCells st.h j.size (ρ s) with
              | some new => match ownSt st id with
                | some (cs, st1) => if slLen (ρ s) ≤ len ∧ off + new.length ≤ cs.length ∧ new.all AV.one = true then some [(.lit (.int .i64 (slLen (ρ s))), ⟨st1.h.set id (.cells none false (setsL cs off new)), st1.n⟩)] else none
                | none => none
              | none => none
            | _ => none
          | none => none
        | _ => none
      | none => none
    | _, _, _ => none
  | _ => none
theorem xCopy_ok (hT : TOk P T) : XOk P (xCopy T) := by
  intro rd ops i f st o outs ho hw h
  unfold xCopy at h
  split at h
  · rename_i c hx
    split at h
    · rename_i d s dt sT hc ha ht
      have ha' : c.args = #[d, s] := by cases hq : c.args; simp_all
      have ht' : c.argTypes = #[dt, sT] := by cases hq : c.argTypes; simp_all
      split at h
      · rename_i ti hti
        split at h
        · rename_i e hd
          split at h
          · rename_i j hj
            split at h
            · rename_i id off len sz ex hxv
              split at h
              · rename_i new hnew
                split at h
                · rename_i cs st1 hown
                  split at h
                  · rename_i hcond
                    obtain ⟨c1, c2, c3⟩ := hcond
                    cases h
                    refine OpsW.multi ho hw (fun c hc => by rw [hx] at hc; cases hc) fun φ w a h2 h3 => ?_
                    have hρ := opR_of h3.ts
                    obtain ⟨k1, k2, k3, k4⟩ := own_ok h2 hown
                    obtain ⟨ad, cap, us, hv, _, hus, hul, huf⟩ := slCells_ok (P := P) h2 (hρ s) hnew
                    have hdd := hρ d
                    rw [hxv] at hdd
                    obtain ⟨cap', hv', _, _, _, _⟩ := hdd.sl_inv
                    obtain ⟨w', h4, h5, h6⟩ := sets_ok (P := P) k1 k3 hus c3 c2
                    refine ⟨_, _, φ, w', .int .i64 (slLen (Operand.av f.ts s)), List.mem_singleton.2 rfl, .inl ?_, .lit _, h5, Ext.refl _, k2.trans h6⟩
                    have hmin : Nat.min (slLen (Operand.av f.ts s)) len = slLen (Operand.av f.ts s) := Nat.min_eq_left c1
                    have hf := huf _ rfl w (Same.refl _ _ _)
                    have hcp : (Builtin.copy_ #[dt, sT] o.type #[a.eval d, a.eval s]).run P w = .ok (.int .i64 (slLen (Operand.av f.ts s))) w' := by
                      rw [hv', hv] at *
                      simp only [Builtin.copy_, List.getElem?_toArray, List.getElem?_cons_zero, List.getElem?_cons_succ, Sem.run_bind, run_und hT hti, hd, Result.andThen, Builtin.lenOf, Sem.run_pure, hmin, run_size hT hj, hf, h4]
                      rfl
                    simp [execOp, hx, resolve, hc, ha', ht', invoke, builtin, hcp, Result.andThen]
                  · cases h
                · cases h
              · cases h
            · cases h
          · cases h
        · cases h
      · cases h
    · cases h
  · cases h
def xClear (T : Ti) (st : St) (ρ : Operand → AV) (o : Oper) : Option (List (AV × St)) := match o.op with
  | .call c => match c.callee, c.args.toList, c.argTypes.toList with
    | .builtin .clear, [s], [t] => match T t with
      | some i => match i.desc with
        | .slice e => match T e with
          | some j => match ρ s with
            | .sl id off len _ _ => match len with
              | 0 => some [(undA, st)]
              | n + 1 => match ownSt st id with
                | some (cs, st1) => if off + (n + 1) * j.zero.length ≤ cs.length ∧ (zerosA j ((n + 1) * j.zero.length)).all AV.one = true then some [(undA, ⟨st1.h.set id (.cells none false (setsL cs off (zerosA j ((n + 1) * j.zero.length)))), st1.n⟩)] else none
                | none => none
            | .lit (.slice none _ _) => some [(undA, st)]
            | _ => none
          | none => none
        | _ => none
      | none => none
    | _, _, _ => none
  | _ => none
theorem zerosA_length (j : TI) (n : Nat) : (zerosA j n).length = n := by simp [zerosA]
theorem xClear_ok (hT : TOk P T) : XOk P (xClear T) := by
  intro rd ops i f st o outs ho hw h
  unfold xClear at h
  split at h
  · rename_i c hx
    split at h
    · rename_i s t hc ha ht
      have ha' : c.args = #[s] := by cases hq : c.args; simp_all
      have ht' : c.argTypes = #[t] := by cases hq : c.argTypes; simp_all
      split at h
      · rename_i ti hti
        split at h
        · rename_i e hd
          split at h
          · rename_i j hj
            split at h
            · rename_i id off len sz ex hxv
              split at h
              · cases h
                refine OpsW.multi ho hw (fun c hc => by rw [hx] at hc; cases hc) fun φ w a h2 h3 => ?_
                have hdd := opR_of h3.ts s
                rw [hxv] at hdd
                obtain ⟨cap', hv', _, _, _, _⟩ := hdd.sl_inv
                refine ⟨_, _, φ, w, .tuple #[], List.mem_singleton.2 rfl, .inl ?_, .lit _, h2, Ext.refl _, Fr.refl _ _ _⟩
                have hcp : (Builtin.clear_ #[t] o.type #[a.eval s]).run P w = .ok (.tuple #[]) w := by
                  rw [hv']
                  simp only [Builtin.clear_, List.getElem?_toArray, List.getElem?_cons_zero, Sem.run_bind, run_und hT hti, hd, Result.andThen, Sem.run_pure]
                simp [execOp, hx, resolve, hc, ha', ht', invoke, builtin, hcp, Result.andThen]
              · rename_i n
                split at h
                · rename_i cs st1 hown
                  split at h
                  · rename_i hcond
                    obtain ⟨c2, c3⟩ := hcond
                    cases h
                    refine OpsW.multi ho hw (fun c hc => by rw [hx] at hc; cases hc) fun φ w a h2 h3 => ?_
                    have hdd := opR_of h3.ts s
                    rw [hxv] at hdd
                    obtain ⟨k1, k2, k3, k4⟩ := own_ok h2 hown
                    obtain ⟨cap', hv', _, _, _, _⟩ := hdd.sl_inv
                    obtain ⟨z, hz, hzc⟩ := run_zero hT hj w
                    have hzs := zeros_ok φ hzc ((n + 1) * j.zero.length)
                    obtain ⟨w', h4, h5, h6⟩ := sets_ok (P := P) k1 k3 hzs c3 (by rw [zerosA_length]; exact c2)
                    refine ⟨_, _, φ, w', .tuple #[], List.mem_singleton.2 rfl, .inl ?_, .lit _, h5, Ext.refl _, k2.trans h6⟩
                    have hzl : z.cells.size = j.zero.length := by rw [← hzc]; simp
                    have hzz : (Builtin.zeroCells z.cells (n + 1)).toList = (List.range ((n + 1) * j.zero.length)).map fun k => z.cells[k % z.cells.size]! := by
                      simp [Builtin.zeroCells, hzl]
                    have hcp : (Builtin.clear_ #[t] o.type #[a.eval s]).run P w = .ok (.tuple #[]) w' := by
                      rw [hv']
                      simp only [Builtin.clear_, List.getElem?_toArray, List.getElem?_cons_zero, Sem.run_bind, run_und hT hti, hd, Result.andThen, Sem.run_pure, hz, hzz, h4]
                    simp [execOp, hx, resolve, hc, ha', ht', invoke, builtin, hcp, Result.andThen]
                  · cases h
                · cases h
            · rename_i x y hxv
              cases h
              refine OpsW.multi ho hw (fun c hc => by rw [hx] at hc; cases hc) fun φ w a h2 h3 => ?_
              have hdd := opR_of h3.ts s
              rw [hxv] at hdd
              have hv' := hdd.lit_inv
              refine ⟨_, _, φ, w, .tuple #[], List.mem_singleton.2 rfl, .inl ?_, .lit _, h2, Ext.refl _, Fr.refl _ _ _⟩
              have hcp : (Builtin.clear_ #[t] o.type #[a.eval s]).run P w = .ok (.tuple #[]) w := by
                rw [hv']
                simp only [Builtin.clear_, List.getElem?_toArray, List.getElem?_cons_zero, Sem.run_bind, run_und hT hti, hd, Result.andThen, Sem.run_pure]
              simp [execOp, hx, resolve, hc, ha', ht', invoke, builtin, hcp, Result.andThen]
            · cases h
          · cases h
        · cases h
      · cases h
    · cases h
  · cases h
end
end Go.Ev
