/-
  THE EVALUATOR, MADE QUICK: frames out of lists, what a call leaves behind, calls. Own work of the verifier of watercress.
-/
import Derived.Test.YtmoimpajiajacaaEvKe
namespace Go.Ev

/-! ### Frames out of lists -/
/-- The elements at 0, 2, 4, ..; and at 1, 3, 5, ... -/
noncomputable def halfL (l : List AV) : Bool → List AV := @List.rec AV (fun _ => Bool → List AV) (fun _ => []) (fun a _ ih b => @Bool.rec (fun _ => List AV) (ih true) (a :: ih false) b) l
theorem halfL_nil (b : Bool) : halfL [] b = [] := rfl
theorem halfL_tt (a : AV) (r : List AV) : halfL (a :: r) true = a :: halfL r false := rfl
theorem halfL_ff (a : AV) (r : List AV) : halfL (a :: r) false = halfL r true := rfl
theorem halfL_get : ∀ (l : List AV) (b : Bool) (k : Nat), (halfL l b)[k]? = l[2 * k + (if b then 0 else 1)]?
  | [], b, k => by simp [halfL_nil]
  | a :: r, true, 0 => by simp [halfL_tt]
  | a :: r, true, k + 1 => by
    rw [halfL_tt, List.getElem?_cons_succ, halfL_get r false k]
    simp only [Bool.false_eq_true, if_false, if_true]
    rw [show 2 * (k + 1) + 0 = (2 * k + 1) + 1 from by omega, List.getElem?_cons_succ]
  | a :: r, false, k => by
    rw [halfL_ff, halfL_get r true k]
    simp only [Bool.false_eq_true, if_false, if_true]
    rw [List.getElem?_cons_succ]
    rfl
theorem halfL_len : ∀ (l : List AV) (b : Bool), (halfL l b).length ≤ l.length
  | [], b => by simp [halfL_nil]
  | a :: r, true => by rw [halfL_tt]; simp only [List.length_cons]; have := halfL_len r false; omega
  | a :: r, false => by rw [halfL_ff]; simp only [List.length_cons]; have := halfL_len r true; omega

noncomputable def treeL (n : Nat) : List AV → Tr := @Nat.rec (fun _ => List AV → Tr) (fun _ => .nil) (fun _ ih l => @List.rec AV (fun _ => Tr) .nil (fun a r _ => .node a (ih (halfL r true)) (ih (halfL r false))) l) n
theorem treeL_get : ∀ (n : Nat) (l : List AV) (i : Nat), i + 1 < 2 ^ n → (treeL n l).get i = l.getD i undA
  | 0, l, i, h => by simp at h
  | n + 1, [], i, h => by
    have : treeL (n + 1) [] = .nil := rfl
    rw [this]; simp [Tr.get]
  | n + 1, a :: r, i, h => by
    have hp : 2 ^ (n + 1) = 2 * 2 ^ n := by rw [Nat.pow_succ]; omega
    rw [hp] at h
    have : treeL (n + 1) (a :: r) = .node a (treeL n (halfL r true)) (treeL n (halfL r false)) := rfl
    rw [this]
    simp only [Tr.get]
    cases hi : Nat.beq i 0 with
    | true => have := Nat.eq_of_beq_eq_true hi; subst this; rfl
    | false =>
      have hi := Nat.ne_of_beq_eq_false hi
      cases hm : Nat.beq (i % 2) 1 with
      | true =>
        have hm := Nat.eq_of_beq_eq_true hm
        simp only
        rw [treeL_get n _ _ (by omega), List.getD_eq_getElem?_getD, List.getD_eq_getElem?_getD, halfL_get]
        obtain ⟨j, rfl⟩ : ∃ j, i = 2 * j + 1 := ⟨i / 2, by omega⟩
        rw [show (2 * j + 1) / 2 = j from by omega, List.getElem?_cons_succ]
        simp
      | false =>
        have hm := Nat.ne_of_beq_eq_false hm
        simp only
        rw [treeL_get n _ _ (by omega), List.getD_eq_getElem?_getD, List.getD_eq_getElem?_getD, halfL_get]
        obtain ⟨j, rfl⟩ : ∃ j, i = 2 * j + 2 := ⟨i / 2 - 1, by omega⟩
        rw [show (2 * j + 2) / 2 - 1 = j from by omega, show 2 * j + 2 = (2 * j + 1) + 1 from rfl, List.getElem?_cons_succ]
        simp
noncomputable def ofF (l : List AV) (n : Nat) : TF := ⟨treeL 20 l, (match Nat.ble (lenL l) n with | true => n | false => lenL l), []⟩
theorem ofF_len (l : List AV) (n : Nat) : (ofF l n).len = max l.length n := by
  unfold ofF
  simp only [lenL_eq]
  cases hb : Nat.ble l.length n with
  | true => have := Nat.le_of_ble_eq_true hb; simp only; omega
  | false =>
    have : ¬ l.length ≤ n := fun h => by rw [Nat.ble_eq_true_of_le h] at hb; cases hb
    simp only; omega
theorem ofF_ok {l : List AV} {n : Nat} (h : max l.length n ≤ bigT) : (ofF l n).ok := by unfold TF.ok; rw [ofF_len]; exact h
theorem ofF_abs {l : List AV} {n : Nat} (h : max l.length n ≤ bigT) : (ofF l n).abs = ⟨l ++ List.replicate (n - l.length) undA, []⟩ := by
  rw [← TF.abs_of h]
  unfold TF.abs
  rw [ofF_len]
  show (⟨_, []⟩ : Fm) = ⟨_, []⟩
  congr 1
  refine List.map_congr_left fun i hi => ?_
  have hlt : i < max l.length n := List.mem_range.1 hi
  show (treeL 20 l).get i = (Tr.fill 0 l .nil).get i
  rw [treeL_get 20 l i (by unfold bigT at h; omega), Tr.get_fill l 0 .nil i (by omega)]
  by_cases hc : i < l.length
  · rw [if_pos (by omega)]; simp
  · rw [if_neg (by omega), List.getD_eq_getElem?_getD, List.getElem?_eq_none (by omega)]
    simp [Tr.get]

/-! ### What is below a number -/
noncomputable def ltV (n : Nat) (a : AV) : Bool := @AV.rec (fun _ => Bool) (fun _ => Bool) (fun _ => true) (fun i _ => Nat.blt i n) (fun i _ _ _ _ => Nat.blt i n) (fun i => Nat.blt i n) (fun i => Nat.blt i n) (fun _ _ _ h1 h2 => @Bool.rec (fun _ => Bool) false h2 h1) (fun _ h => h) (fun _ h => h) true (fun _ _ h1 h2 => @Bool.rec (fun _ => Bool) false h2 h1) a
noncomputable def ltL (n : Nat) (l : List AV) : Bool := allL (ltV n) l
noncomputable def ltO (n : Nat) (o : AObj) : Bool := match o with
  | .cells none _ cs => ltL n cs
  | .cells (some g) _ cs => Nat.blt g n && ltL n cs
  | .loop r => Nat.blt r.dfid n && ltL n r.tmps
  | .dfr => true
  | .map es _ => es.all fun x => ltV n x.1 && ltV n x.2.1
  | .iter mid _ _ _ => Nat.blt mid n

theorem and_rec (a b : Bool) : @Bool.rec (fun _ => Bool) false b a = (a && b) := by cases a <;> rfl
theorem ltV_sub (n : Nat) : ∀ (l : List AV), @AV.rec_1 (fun _ => Bool) (fun _ => Bool) (fun _ => true) (fun i _ => Nat.blt i n) (fun i _ _ _ _ => Nat.blt i n) (fun i => Nat.blt i n) (fun i => Nat.blt i n) (fun _ _ _ h1 h2 => @Bool.rec (fun _ => Bool) false h2 h1) (fun _ h => h) (fun _ h => h) true (fun _ _ h1 h2 => @Bool.rec (fun _ => Bool) false h2 h1) l = l.all (ltV n)
  | [] => rfl
  | a :: r => by
    have ih := ltV_sub n r
    show @Bool.rec (fun _ => Bool) false (@AV.rec_1 (fun _ => Bool) (fun _ => Bool) _ _ _ _ _ _ _ _ _ _ r) (ltV n a) = _
    rw [ih, and_rec, List.all_cons]
theorem rho_nil {n i : Nat} (h : Nat.blt i n = true) : rho n [] i = some i := by unfold rho; rw [if_pos h]
mutual
theorem renV_id {n : Nat} : ∀ {a : AV}, ltV n a = true → renV (rho n []) a = some a
  | .lit v, _ => rfl
  | .ptr i o, h => by simp only [renV, rho_nil (show Nat.blt i n = true from h)]
  | .sl i a b c d, h => by simp only [renV, rho_nil (show Nat.blt i n = true from h)]
  | .mp i, h => by simp only [renV, rho_nil (show Nat.blt i n = true from h)]
  | .yld i, h => by simp only [renV, rho_nil (show Nat.blt i n = true from h)]
  | .fn f a b, h => by
    have h' : @Bool.rec (fun _ => Bool) false (@AV.rec_1 (fun _ => Bool) (fun _ => Bool) _ _ _ _ _ _ _ _ _ _ b) (@AV.rec_1 (fun _ => Bool) (fun _ => Bool) _ _ _ _ _ _ _ _ _ _ a) = true := h
    rw [and_rec, ltV_sub, ltV_sub, Bool.and_eq_true] at h'
    simp only [renV, renL_id h'.1, renL_id h'.2]
  | .agg a, h => by
    have h' : @AV.rec_1 (fun _ => Bool) (fun _ => Bool) _ _ _ _ _ _ _ _ _ _ a = true := h
    rw [ltV_sub] at h'
    simp only [renV, renL_id h']
  | .tup a, h => by
    have h' : @AV.rec_1 (fun _ => Bool) (fun _ => Bool) _ _ _ _ _ _ _ _ _ _ a = true := h
    rw [ltV_sub] at h'
    simp only [renV, renL_id h']
theorem renL_id {n : Nat} : ∀ {l : List AV}, l.all (ltV n) = true → renL (rho n []) l = some l
  | [], _ => rfl
  | a :: r, h => by
    rw [List.all_cons, Bool.and_eq_true] at h
    simp only [renL, renV_id h.1, renL_id h.2]
end
theorem renEs_id {n : Nat} : ∀ {l : List (AV × AV × Nat)}, (l.all fun x => ltV n x.1 && ltV n x.2.1) = true → renEs (rho n []) l = some l
  | [], _ => rfl
  | (a, b, c) :: r, h => by
    rw [List.all_cons, Bool.and_eq_true, Bool.and_eq_true] at h
    simp only [renEs, renV_id h.1.1, renV_id h.1.2, renEs_id h.2]
theorem renO_id {n : Nat} {o : AObj} (h : ltO n o = true) : renO (rho n []) o = some o := by
  cases o with
  | cells fam ro cs =>
    cases fam with
    | none => simp only [ltO, ltL, allL_eq] at h; simp only [renO, renL_id h]
    | some g =>
      simp only [ltO, ltL, allL_eq, Bool.and_eq_true] at h
      simp only [renO, rho_nil h.1, renL_id h.2]
  | loop r => simp only [ltO, ltL, allL_eq, Bool.and_eq_true] at h; simp only [renO, rho_nil h.1, renL_id h.2]
  | dfr => rfl
  | map es c => simp only [ltO] at h; simp only [renO, renEs_id h]
  | iter m a b c => simp only [ltO] at h; simp only [renO, rho_nil h]

/-- The old objects, if none of them names a new one. -/
noncomputable def oldH (n : Nat) (h : Hp) : Option Hp := @List.rec (Nat × AObj) (fun _ => Option Hp) (some []) (fun x _ ih => @Bool.rec (fun _ => Option Hp) ih (match ltO n x.2 with
  | true => match ih with
    | some r => some (x :: r)
    | none => none
  | false => none) (Nat.blt x.1 n)) h
theorem oldH_eq {n : Nat} : ∀ {h h' : Hp}, oldH n h = some h' → renOld (rho n []) n h = some h'
  | [], h', hh => hh
  | x :: r, h', hh => by
    have hh' : @Bool.rec (fun _ => Option Hp) (oldH n r) (match ltO n x.2 with
      | true => match oldH n r with
        | some r => some (x :: r)
        | none => none
      | false => none) (Nat.blt x.1 n) = some h' := hh
    simp only [renOld]
    cases hb : Nat.blt x.1 n with
    | false => rw [hb] at hh'; exact oldH_eq hh'
    | true =>
      rw [hb] at hh'
      simp only at hh'
      split at hh'
      · rename_i ho
        split at hh'
        · rename_i r' hr'
          cases hh'
          simp only [renO_id ho, oldH_eq hr']
        · cases hh'
      · cases hh'

/-- What a call leaves: little is left as it is; else what it has made is forgotten, if nobody names it; else it gets new names. -/
noncomputable def gc3 (D n0 : Nat) (v : AV) (st : St) : AV × St := match Nat.ble st.n (n0 + D) with
  | true => (v, st)
  | false => match ltV n0 v with
    | true => match oldH n0 st.h with
      | some h => (v, ⟨h, n0⟩)
      | none => canon n0 v st
    | false => canon n0 v st

theorem CPost.ren {φ : Fi} {st : St} {w : World} {k : AV → St → Prop} {e : Ending} {w' : World} (hn : φ.n = st.n) {v v' : AV} {cv : Value} {st' : St} {φ' : Fi} (he : e = .returned cv) (hv : VR φ' v cv) (hex : Ext φ φ') (hrel : Rel φ' st' w') (hfr : Fr φ st w φ' st' w')
    {ord : List Nat} {a b : Hp} (h1 : ord.Nodup) (h2 : ∀ i ∈ ord, st.n ≤ i) (hv' : renV (rho st.n ord) v = some v') (ha : renOld (rho st.n ord) st.n st'.h = some a) (hb : renNew (rho st.n ord) st'.h st.n ord = some b) (hk : k v' ⟨b ++ a, st.n + ord.length⟩) : CPost φ st w k e w' := by
  obtain ⟨h3, h4⟩ := renSt_ok hrel h1 h2 ha hb
  refine ⟨v', cv, _, phi st.n ord φ', he, hk, renV_ok (rho_ok st.n ord φ') hv' hv, ⟨?_, fun id hid => ?_⟩, h3, ⟨hfr.os, hfr.tape, hfr.output, hfr.size, hfr.block, fun k hk => hfr.own k (h4 k hk)⟩⟩
  · rw [hn]; unfold phi; simp only; omega
  · rw [phi_old (by rw [← hn]; exact hid)]; exact hex.f id hid

theorem CallW.gc {P : Program} {g : FuncId} {args : List AV} {st : St} {k : AV → St → Prop} (D : Nat) (h : CallW P g args st (fun v st' => k (gc3 D st.n v st').1 (gc3 D st.n v st').2)) : CallW P g args st k := by
  intro φ w cargs n h1 h2
  refine (h φ w cargs n h1 h2).mono fun e w' hp => ?_
  obtain ⟨v, cv, st', φ', he, hk, hv, hex, hrel, hfr⟩ := hp
  have same : k v st' → CPost φ st w k e w' := fun hk => ⟨v, cv, st', φ', he, hk, hv, hex, hrel, hfr⟩
  have cano : k (Ev.canon st.n v st').1 (Ev.canon st.n v st').2 → CPost φ st w k e w' := fun hk => by
    unfold Ev.canon at hk
    split at hk
    · exact same hk
    · simp only at hk
      generalize reach st'.h st.n 400 _ [] = ord at hk
      split at hk
      · exact same hk
      · rename_i hc
        simp only [Bool.and_eq_true, decide_eq_true_eq, List.all_eq_true] at hc
        split at hk
        · rename_i v' a b hv' ha hb
          exact CPost.ren h1.n he hv hex hrel hfr hc.1 (fun i hi => Nat.le_of_ble_eq_true (hc.2 i hi)) hv' ha hb hk
        · exact same hk
  unfold gc3 at hk
  split at hk
  · exact same hk
  · split at hk
    · rename_i hlt
      split at hk
      · rename_i h' hh'
        exact CPost.ren (ord := []) (b := []) h1.n he hv hex hrel hfr (by simp) (fun i hi => by cases hi) (renV_id hlt) (oldH_eq hh') rfl hk
      · exact cano hk
    · exact cano hk

/-- The same, without new names where one may do without: what is new is forgotten if neither the value nor an old object names it (loops are not asked: they name what was there before them). -/
noncomputable def ltO4 (n : Nat) (o : AObj) : Bool := match o with
  | .cells none _ cs => ltL n cs
  | .cells (some g) _ cs => Nat.blt g n && ltL n cs
  | .map es _ => allL (fun x => ltV n x.1 && ltV n x.2.1) es
  | _ => true
noncomputable def oldOk (n : Nat) (h : Hp) : Bool := @List.rec (Nat × AObj) (fun _ => Bool) true (fun x _ ih => @Bool.rec (fun _ => Bool) ih (@Bool.rec (fun _ => Bool) false ih (ltO4 n x.2)) (Nat.blt x.1 n)) h
noncomputable def oldL (n : Nat) (h : Hp) : Hp := @List.rec (Nat × AObj) (fun _ => Hp) [] (fun x _ ih => @Bool.rec (fun _ => Hp) ih (x :: ih) (Nat.blt x.1 n)) h
theorem oldL_eq (n : Nat) : ∀ h : Hp, oldL n h = h.filter fun x => Nat.blt x.1 n
  | [] => rfl
  | x :: r => by
    show @Bool.rec (fun _ => Hp) (oldL n r) (x :: oldL n r) (Nat.blt x.1 n) = _
    rw [oldL_eq n r, List.filter_cons]
    cases Nat.blt x.1 n <;> rfl
noncomputable def gc4 (D n0 : Nat) (v : AV) (st : St) : AV × St := match Nat.ble st.n (n0 + D) with
  | true => (v, st)
  | false => match ltV n0 v && oldOk n0 st.h with
    | true => (v, ⟨oldL n0 st.h, st.n⟩)
    | false => match Nat.ble st.n (n0 + 8 * D) with
      | true => (v, st)
      | false => canon n0 v st
theorem CallW.gc4 {P : Program} {g : FuncId} {args : List AV} {st : St} {k : AV → St → Prop} (D : Nat) (h : CallW P g args st (fun v st' => k (gc4 D st.n v st').1 (gc4 D st.n v st').2)) : CallW P g args st k := by
  intro φ w cargs n h1 h2
  refine (h φ w cargs n h1 h2).mono fun e w' hp => ?_
  obtain ⟨v, cv, st', φ', he, hk, hv, hex, hrel, hfr⟩ := hp
  have same : k v st' → CPost φ st w k e w' := fun hk => ⟨v, cv, st', φ', he, hk, hv, hex, hrel, hfr⟩
  have cano : k (Ev.canon st.n v st').1 (Ev.canon st.n v st').2 → CPost φ st w k e w' := fun hk => by
    unfold Ev.canon at hk
    split at hk
    · exact same hk
    · simp only at hk
      generalize reach st'.h st.n 400 _ [] = ord at hk
      split at hk
      · exact same hk
      · rename_i hc
        simp only [Bool.and_eq_true, decide_eq_true_eq, List.all_eq_true] at hc
        split at hk
        · rename_i v' a b hv' ha hb
          exact CPost.ren h1.n he hv hex hrel hfr hc.1 (fun i hi => Nat.le_of_ble_eq_true (hc.2 i hi)) hv' ha hb hk
        · exact same hk
  unfold Ev.gc4 at hk
  split at hk
  · exact same hk
  · split at hk
    · rw [oldL_eq] at hk
      exact ⟨v, cv, st'.keep fun i => Nat.blt i st.n, φ', he, hk, hv, hex, hrel.keep _, hfr.keep _⟩
    · split at hk
      · exact same hk
      · exact cano hk

/-! ### Calls -/
noncomputable def nthP (f : TF) (t : Nat) : AV := match Nat.blt t 1048575 with
  | true => @Bool.rec (fun _ => AV) undA (goP (pth t) f.t) (Nat.blt t f.len)
  | false => f.at t
theorem nthP_eq (f : TF) (t : Nat) : nthP f t = f.at t := by
  unfold nthP
  cases hb : Nat.blt t 1048575 with
  | false => rfl
  | true =>
    have ht : t < 1048575 := Nat.le_of_ble_eq_true hb
    simp only [TF.at, pth]
    rw [goP_eq 20 f.t t (by omega)]
    cases Nat.blt t f.len <;> rfl
section
variable (T : Ti)
noncomputable def resOne3 (f : TF) (st : St) (r : ResultVar) : Option AV := match r with
  | .tmp t => some (nthP f t)
  | .cell a t => match partK T t with
    | some (some n) => kLda st.h n (nthP f a)
    | some none => kLd1 st.h (nthP f a)
    | none => loadA T st.h t (nthP f a)
noncomputable def resAll3 (f : TF) (st : St) : List ResultVar → Option (List AV)
  | [] => some []
  | r :: rs => match resOne3 T f st r, resAll3 f st rs with
    | some v, some vs => some (v :: vs)
    | _, _ => none
noncomputable def resA3 (rs : Array ResultVar) (f : TF) (st : St) : Option AV := match rs.toList with
  | [r] => resOne3 T f st r
  | l => match resAll3 T f st l with
    | some [v] => some v
    | some vs => some (.tup vs)
    | none => none
variable {T}
theorem resOne3_eq (f : TF) (st : St) (r : ResultVar) : resOne3 T f st r = resOne T f.abs st r := by
  cases r with
  | tmp t => simp only [resOne3, resOne, TF.at_eq, nthP_eq]
  | cell a t =>
    simp only [resOne3, resOne, TF.at_eq, nthP_eq]
    split
    · rename_i n hp
      simp only [kLda, loadA]
      cases f.at a with
      | ptr id off =>
        simp only [cellL_eq]
        cases cellsAt st.h id with
        | none => rfl
        | some cs => simp only; rw [partK_eq hp]
      | _ => rfl
    · rename_i hp
      simp only [kLd1, loadA]
      cases f.at a with
      | ptr id off =>
        simp only [cellL_eq]
        cases cellsAt st.h id with
        | none => rfl
        | some cs => simp only; rw [partK_eq hp]
      | _ => rfl
    · rfl
theorem resAll3_eq (f : TF) (st : St) : ∀ rs : List ResultVar, resAll3 T f st rs = resAll T f.abs st rs
  | [] => rfl
  | r :: rs => by
    simp only [resAll3, resAll, resOne3_eq, resAll3_eq f st rs]
    rfl
theorem resA3_eq (rs : Array ResultVar) (f : TF) (st : St) : resA3 T rs f st = resA T rs f.abs st := by
  unfold resA3 resA
  cases hrs : rs.toList with
  | nil => simp only [resAll3_eq]; rfl
  | cons r l =>
    cases l with
    | nil =>
      simp only [resOne3_eq, resAll]
      cases resOne T f.abs st r <;> rfl
    | cons r' l' => simp only [resAll3_eq]; rfl
end

noncomputable def setPs3 (ts : List AV) (l : List (Tmp × AV)) : List AV := @List.rec (Tmp × AV) (fun _ => List AV → List AV) (fun ts => ts) (fun x _ ih ts => ih (setL ts x.1 x.2)) l ts
theorem setPs3_eq : ∀ (l : List (Tmp × AV)) (ts : List AV), setPs3 ts l = setPs ts l
  | [], ts => by simp [setPs3, setPs]
  | (t, a) :: r, ts => by
    show setPs3 (setL ts t a) r = _
    rw [setPs3_eq r, setL_eq]
    simp [setPs]
end Go.Ev
