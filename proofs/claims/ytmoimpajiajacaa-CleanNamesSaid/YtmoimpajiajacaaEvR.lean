/-
  NEW NAMES for what a call has made: what nobody reaches is forgotten, the rest is numbered in the order in which it is found. Own work of the verifier of watercress.
-/
import Derived.Test.YtmoimpajiajacaaEvL
namespace Go.Ev

mutual
def renV (ρ : Nat → Option Nat) : AV → Option AV
  | .lit v => some (.lit v)
  | .ptr i o => match ρ i with
    | some j => some (.ptr j o)
    | none => none
  | .sl i a b c d => match ρ i with
    | some j => some (.sl j a b c d)
    | none => none
  | .mp i => match ρ i with
    | some j => some (.mp j)
    | none => none
  | .yld i => match ρ i with
    | some j => some (.yld j)
    | none => none
  | .fn f a b => match renL ρ a, renL ρ b with
    | some a', some b' => some (.fn f a' b')
    | _, _ => none
  | .agg a => match renL ρ a with
    | some a' => some (.agg a')
    | none => none
  | .tup a => match renL ρ a with
    | some a' => some (.tup a')
    | none => none
def renL (ρ : Nat → Option Nat) : List AV → Option (List AV)
  | [] => some []
  | a :: r => match renV ρ a with
    | none => none
    | some a' => match renL ρ r with
      | some r' => some (a' :: r')
      | none => none
end

def RenOk (ρ : Nat → Option Nat) (φ φ' : Fi) : Prop := ∀ i j, ρ i = some j → i < φ.n → φ'.f j = φ.f i ∧ j < φ'.n

mutual
theorem renV_ok {ρ : Nat → Option Nat} {φ φ' : Fi} (hρ : RenOk ρ φ φ') : ∀ {a a' : AV} {u : Value}, renV ρ a = some a' → VR φ a u → VR φ' a' u := by
  intro a a' u h hv
  unfold renV at h
  split at h
  · cases h; obtain rfl := hv.lit_inv; exact .lit _
  · split at h
    · rename_i j hj
      cases h
      obtain ⟨rfl, hi⟩ := hv.ptr_inv
      obtain ⟨h1, h2⟩ := hρ _ _ hj hi
      rw [← h1]; exact .ptr j _ h2
    · cases h
  · split at h
    · rename_i j hj
      cases h
      obtain ⟨cap, rfl, hi, h3, h4, h5⟩ := hv.sl_inv
      obtain ⟨h1, h2⟩ := hρ _ _ hj hi
      rw [← h1] at h5 ⊢
      exact .sl j _ _ _ _ cap h2 h3 h4 h5
    · cases h
  · split at h
    · rename_i j hj
      cases h
      obtain ⟨rfl, hi⟩ := hv.mp_inv
      obtain ⟨h1, h2⟩ := hρ _ _ hj hi
      rw [← h1]; exact .mp j h2
    · cases h
  · split at h
    · rename_i j hj
      cases h
      obtain ⟨rfl, hi⟩ := hv.yld_inv
      obtain ⟨h1, h2⟩ := hρ _ _ hj hi
      rw [← h1]; exact .yld j h2
    · cases h
  · rename_i f a b
    split at h
    · rename_i a' b' ha hb
      cases h
      obtain ⟨us, vs, rfl, h1, h2⟩ := hv.fn_inv
      exact .fn f (renL_ok hρ ha h1) (renL_ok hρ hb h2)
    · cases h
  · split at h
    · rename_i a' ha
      cases h
      obtain ⟨us, rfl, h1⟩ := hv.agg_inv
      exact .agg (renL_ok hρ ha h1)
    · cases h
  · split at h
    · rename_i a' ha
      cases h
      obtain ⟨us, rfl, h1⟩ := hv.tup_inv
      exact .tup (renL_ok hρ ha h1)
    · cases h
theorem renL_ok {ρ : Nat → Option Nat} {φ φ' : Fi} (hρ : RenOk ρ φ φ') : ∀ {a a' : List AV} {u : List Value}, renL ρ a = some a' → VRL φ a u → VRL φ' a' u := by
  intro a a' u h hv
  unfold renL at h
  split at h
  · cases h; cases hv; exact .nil
  · split at h
    · cases h
    · rename_i x hx
      split at h
      · rename_i r hr
        cases h
        cases hv with
        | cons h1 h2 => exact .cons (renV_ok hρ hx h1) (renL_ok hρ hr h2)
      · cases h
end

theorem renL_get {ρ : Nat → Option Nat} : ∀ {a a' : List AV} {i : Nat} {x' : AV}, renL ρ a = some a' → a'[i]? = some x' → ∃ x, a[i]? = some x ∧ renV ρ x = some x'
  | [], a', i, x', h, hx => by simp only [renL, Option.some.injEq] at h; subst h; simp at hx
  | y :: r, a', i, x', h, hx => by
    simp only [renL] at h
    split at h
    · cases h
    · rename_i y' hy
      split at h
      · rename_i r' hr
        cases h
        cases i with
        | zero => simp only [List.getElem?_cons_zero, Option.some.injEq] at hx ⊢; subst hx; exact ⟨y, rfl, hy⟩
        | succ i => rw [List.getElem?_cons_succ] at hx ⊢; exact renL_get hr hx
      · cases h
theorem renL_len {ρ : Nat → Option Nat} : ∀ {a a' : List AV}, renL ρ a = some a' → a'.length = a.length
  | [], a', h => by simp only [renL, Option.some.injEq] at h; subst h; rfl
  | y :: r, a', h => by
    simp only [renL] at h
    split at h
    · cases h
    · split at h
      · rename_i r' hr; cases h; simp [renL_len hr]
      · cases h

def renEs (ρ : Nat → Option Nat) : List (AV × AV × Nat) → Option (List (AV × AV × Nat))
  | [] => some []
  | x :: r => match renV ρ x.1, renV ρ x.2.1, renEs ρ r with
    | some a, some b, some r' => some ((a, b, x.2.2) :: r')
    | _, _, _ => none

theorem renEs_get {ρ : Nat → Option Nat} : ∀ {a a' : List (AV × AV × Nat)}, renEs ρ a = some a' → a'.length = a.length ∧ ∀ (i : Nat) (x' : AV × AV × Nat), a'[i]? = some x' → ∃ x, a[i]? = some x ∧ renV ρ x.1 = some x'.1 ∧ renV ρ x.2.1 = some x'.2.1 ∧ x'.2.2 = x.2.2
  | [], a', h => by simp only [renEs, Option.some.injEq] at h; subst h; exact ⟨rfl, fun i x hx => by simp at hx⟩
  | y :: r, a', h => by
    simp only [renEs] at h
    split at h
    · rename_i a b r' h1 h2 h3
      cases h
      obtain ⟨k1, k2⟩ := renEs_get h3
      refine ⟨by simp [k1], fun i x hx => ?_⟩
      cases i with
      | zero => simp only [List.getElem?_cons_zero, Option.some.injEq] at hx ⊢; subst hx; exact ⟨y, rfl, h1, h2, rfl⟩
      | succ i => rw [List.getElem?_cons_succ] at hx ⊢; exact k2 i x hx
    · cases h

def renO (ρ : Nat → Option Nat) : AObj → Option AObj
  | .cells none ro cs => match renL ρ cs with
    | some cs' => some (.cells none ro cs')
    | none => none
  | .cells (some g) ro cs => match ρ g, renL ρ cs with
    | some g', some cs' => some (.cells (some g') ro cs')
    | _, _ => none
  | .loop r => match renL ρ r.tmps, ρ r.dfid with
    | some ts, some d => some (.loop { r with tmps := ts, dfid := d })
    | _, _ => none
  | .dfr => some .dfr
  | .map es c => match renEs ρ es with
    | some es' => some (.map es' c)
    | none => none
  | .iter mid a b c => match ρ mid with
    | some m => some (.iter m a b c)
    | none => none

theorem renO_own {ρ : Nat → Option Nat} {o o' : AObj} (h : renO ρ o = some o') : o'.own = o.own := by
  unfold renO at h
  split at h <;> (try split at h) <;> cases h <;> rfl

theorem renO_fam {ρ : Nat → Option Nat} {o o' : AObj} (h : renO ρ o = some o') {g : Nat} (hg : o.fam = some g) : ρ g = o'.fam ∧ (ρ g).isSome := by
  unfold renO at h
  split at h <;> (try split at h) <;> cases h <;> simp_all [AObj.fam]

theorem renO_ok {ρ : Nat → Option Nat} {φ φ' : Fi} (hρ : RenOk ρ φ φ') {w : World} {i j : Nat} (hij : φ'.f j = φ.f i) {o o' : AObj} (h : renO ρ o = some o') (ho : ObjR φ w i o) : ObjR φ' w j o' := by
  have cells : ∀ {fm fm' : Option Nat} {ro : Bool} {cs cs' : List AV}, renL ρ cs = some cs' → ObjR φ w i (.cells fm ro cs) → ObjR φ' w j (.cells fm' ro cs') := fun {fm fm' ro cs cs'} hc h1 => by
    refine ⟨fun k a ha => ?_, fun hro => ?_⟩
    · obtain ⟨x, hx, hr⟩ := renL_get hc ha
      obtain ⟨v, hv, hr2⟩ := h1.1 k x hx
      exact ⟨v, by rw [hij]; exact hv, renV_ok hρ hr hr2⟩
    · obtain ⟨c, t, k1, k2, k3⟩ := h1.2 hro
      exact ⟨c, t, by rw [hij]; exact k1, by rw [hij]; exact k2, by rw [hij, renL_len hc]; exact k3⟩
  unfold renO at h
  split at h
  · split at h
    · rename_i hc; cases h; exact cells hc ho
    · cases h
  · split at h
    · rename_i _ hc; cases h; exact cells hc ho
    · cases h
  · split at h
    · rename_i ts d h1 h2
      cases h
      obtain ⟨L, g1, g2, g3, g4, g5, g6, g7, g8, g9⟩ := ho
      obtain ⟨k1, k2⟩ := hρ _ _ h2 g8
      exact ⟨L, by rw [hij]; exact g1, g2, g3, renL_ok hρ h1 g4, g5, g6, g7, k2, by rw [k1]; exact g9⟩
    · cases h
  · cases h; show _ = _; rw [hij]; exact ho
  · split at h
    · rename_i es' hes
      cases h
      obtain ⟨ces, h1, h2, h3⟩ := ho
      obtain ⟨k1, k2⟩ := renEs_get hes
      refine ⟨ces, by rw [hij]; exact h1, by rw [h2, k1], fun q x hx => ?_⟩
      obtain ⟨y, m1, m2, m3, m4⟩ := k2 q x hx
      obtain ⟨e, n1, n2, n3, n4⟩ := h3 q y m1
      exact ⟨e, n1, renV_ok hρ m2 n2, renV_ok hρ m3 n3, by rw [n4, m4]⟩
    · cases h
  · split at h
    · rename_i m hm
      cases h
      obtain ⟨h1, h2, h3⟩ := ho
      obtain ⟨k1, k2⟩ := hρ _ _ hm h3
      exact ⟨by rw [hij, k1]; exact h1, by rw [hij]; exact h2, k2⟩
    · cases h

/-! ### The state anew -/
def posOf (i : Nat) : Nat → List Nat → Option Nat
  | _, [] => none
  | k, x :: r => if Nat.beq x i then some k else posOf i (k + 1) r
theorem posOf_some {i : Nat} : ∀ {l : List Nat} {k j : Nat}, posOf i k l = some j → ∃ idx, j = k + idx ∧ l[idx]? = some i
  | x :: r, k, j, h => by
    simp only [posOf] at h
    split at h
    · rename_i hb
      cases h
      exact ⟨0, rfl, by rw [Nat.eq_of_beq_eq_true hb]; rfl⟩
    · obtain ⟨idx, h1, h2⟩ := posOf_some h
      exact ⟨idx + 1, by omega, by rw [List.getElem?_cons_succ]; exact h2⟩
  | [], k, j, h => by cases h

def rho (n0 : Nat) (ord : List Nat) (i : Nat) : Option Nat := if Nat.blt i n0 then some i else posOf i n0 ord
def phi (n0 : Nat) (ord : List Nat) (φ : Fi) : Fi := ⟨fun j => if j < n0 then φ.f j else φ.f (ord.getD (j - n0) 0), n0 + ord.length⟩

theorem phi_old {n0 : Nat} {ord : List Nat} {φ : Fi} {j : Nat} (h : j < n0) : (phi n0 ord φ).f j = φ.f j := if_pos h
theorem phi_new {n0 : Nat} {ord : List Nat} {φ : Fi} {idx i : Nat} (h : ord[idx]? = some i) : (phi n0 ord φ).f (n0 + idx) = φ.f i := by
  unfold phi
  simp only
  rw [if_neg (by omega)]
  congr 1
  rw [Nat.add_sub_cancel_left, List.getD_eq_getElem?_getD, h]; rfl

theorem rho_ok (n0 : Nat) (ord : List Nat) (φ : Fi) : RenOk (rho n0 ord) φ (phi n0 ord φ) := by
  intro i j h _
  unfold rho at h
  split at h
  · rename_i hb
    cases h
    have hb : i < n0 := Nat.le_of_ble_eq_true hb
    exact ⟨phi_old hb, by unfold phi; simp only; omega⟩
  · obtain ⟨idx, rfl, h2⟩ := posOf_some h
    have := (List.getElem?_eq_some_iff.1 h2).1
    exact ⟨phi_new h2, by unfold phi; simp only; omega⟩

def renOld (ρ : Nat → Option Nat) (n0 : Nat) : Hp → Option Hp
  | [] => some []
  | x :: r => match Nat.blt x.1 n0 with
    | false => renOld ρ n0 r
    | true => match renO ρ x.2 with
      | none => none
      | some o => match renOld ρ n0 r with
        | some r' => some ((x.1, o) :: r')
        | none => none
def renNew (ρ : Nat → Option Nat) (h : Hp) : Nat → List Nat → Option Hp
  | _, [] => some []
  | k, i :: l => match h.get i with
    | none => none
    | some o => match renO ρ o with
      | none => none
      | some o' => match renNew ρ h (k + 1) l with
        | some r => some ((k, o') :: r)
        | none => none

theorem renOld_get {ρ : Nat → Option Nat} {n0 : Nat} : ∀ {h h' : Hp} {j : Nat} {x : AObj}, renOld ρ n0 h = some h' → h'.get j = some x → j < n0 ∧ ∃ o, h.get j = some o ∧ renO ρ o = some x
  | [], h', j, x, hr, hx => by simp only [renOld, Option.some.injEq] at hr; subst hr; cases hx
  | (i, y) :: r, h', j, x, hr, hx => by
    simp only [renOld] at hr
    split at hr
    · rename_i hb
      obtain ⟨h1, o, h2, h3⟩ := renOld_get hr hx
      have : ¬ i = j := fun e => by
        subst e
        have : Nat.blt i n0 = true := Nat.ble_eq_true_of_le h1
        rw [this] at hb; cases hb
      exact ⟨h1, o, by simp only [Hp.get, this, if_false]; exact h2, h3⟩
    · rename_i hb
      have hb : i < n0 := Nat.le_of_ble_eq_true hb
      split at hr
      · cases hr
      · rename_i o ho
        split at hr
        · rename_i r' hr'
          cases hr
          by_cases hij : i = j
          · subst hij
            simp only [Hp.get, if_true, Option.some.injEq] at hx ⊢
            subst hx
            exact ⟨hb, y, rfl, ho⟩
          · simp only [Hp.get, hij, if_false] at hx ⊢
            exact renOld_get hr' hx
        · cases hr

theorem renNew_get {ρ : Nat → Option Nat} {h : Hp} : ∀ {l : List Nat} {k : Nat} {h' : Hp} {j : Nat} {x : AObj}, renNew ρ h k l = some h' → h'.get j = some x → ∃ idx i o, j = k + idx ∧ l[idx]? = some i ∧ h.get i = some o ∧ renO ρ o = some x
  | [], k, h', j, x, hr, hx => by simp only [renNew, Option.some.injEq] at hr; subst hr; cases hx
  | i :: l, k, h', j, x, hr, hx => by
    simp only [renNew] at hr
    split at hr
    · cases hr
    · rename_i o ho
      split at hr
      · cases hr
      · rename_i o' ho'
        split at hr
        · rename_i r hr'
          cases hr
          by_cases hj : k = j
          · subst hj
            simp only [Hp.get, if_true, Option.some.injEq] at hx
            subst hx
            exact ⟨0, i, o, rfl, rfl, ho, ho'⟩
          · simp only [Hp.get, hj, if_false] at hx
            obtain ⟨idx, i2, o2, h1, h2, h3⟩ := renNew_get hr' hx
            exact ⟨idx + 1, i2, o2, by omega, by rw [List.getElem?_cons_succ]; exact h2, h3⟩
        · cases hr

theorem Hp.get_append {j : Nat} {x : AObj} : ∀ {a b : Hp}, Hp.get (a ++ b) j = some x → Hp.get a j = some x ∨ Hp.get b j = some x
  | [], b, h => .inr h
  | (i, y) :: r, b, h => by
    by_cases hij : i = j
    · simp only [List.cons_append, Hp.get, hij, if_true] at h ⊢; exact .inl h
    · simp only [List.cons_append, Hp.get, hij, if_false] at h ⊢; exact Hp.get_append h

theorem renSt_ok {n0 : Nat} {ord : List Nat} {φ : Fi} {st : St} {w : World} {a b : Hp} (hr : Rel φ st w) (hn : ord.Nodup) (hge : ∀ i ∈ ord, n0 ≤ i) (ha : renOld (rho n0 ord) n0 st.h = some a) (hb : renNew (rho n0 ord) st.h n0 ord = some b) :
    Rel (phi n0 ord φ) ⟨b ++ a, n0 + ord.length⟩ w ∧ ∀ k, Owns (phi n0 ord φ) ⟨b ++ a, n0 + ord.length⟩ k → Owns φ st k := by
  have hρ := rho_ok n0 ord φ
  have orig : ∀ j x, Hp.get (b ++ a) j = some x → ∃ i o, st.h.get i = some o ∧ renO (rho n0 ord) o = some x ∧ (phi n0 ord φ).f j = φ.f i ∧ j < n0 + ord.length ∧ ((j < n0 ∧ i = j) ∨ ∃ idx, j = n0 + idx ∧ ord[idx]? = some i) := fun j x hx => by
    rcases Hp.get_append hx with h | h
    · obtain ⟨idx, i, o, h1, h2, h3, h4⟩ := renNew_get hb h
      have := (List.getElem?_eq_some_iff.1 h2).1
      subst h1
      exact ⟨i, o, h3, h4, phi_new h2, by omega, .inr ⟨idx, rfl, h2⟩⟩
    · obtain ⟨h1, o, h2, h3⟩ := renOld_get ha h
      exact ⟨j, o, h2, h3, phi_old h1, by omega, .inl ⟨h1, rfl⟩⟩
  refine ⟨⟨rfl, fun j x hx => ?_, fun j x hx => ?_, fun j x hx => ?_, fun j1 j2 x1 x2 h1 h2 hne hown hbb => ?_⟩, fun k ⟨j, x, hx, hown, hk⟩ => ?_⟩
  · obtain ⟨i, o, _, _, _, h, _⟩ := orig j x hx; exact h
  · obtain ⟨i, o, h1, _, h3, _⟩ := orig j x hx; rw [h3]; exact hr.blk i o h1
  · obtain ⟨i, o, h1, h2, h3, _⟩ := orig j x hx; exact renO_ok hρ h3 h2 (hr.obj i o h1)
  · obtain ⟨i1, o1, k1, k2, k3, _, k5⟩ := orig j1 x1 h1
    obtain ⟨i2, o2, m1, m2, m3, _, m5⟩ := orig j2 x2 h2
    have hii : i1 ≠ i2 := fun e => by
      subst e
      rcases k5 with ⟨k6, rfl⟩ | ⟨a1, rfl, k6⟩
      · rcases m5 with ⟨_, m6⟩ | ⟨a2, rfl, m6⟩
        · exact hne m6
        · have := hge _ (List.mem_of_getElem? m6); omega
      · rcases m5 with ⟨m7, m6⟩ | ⟨a2, rfl, m6⟩
        · have := hge _ (List.mem_of_getElem? k6); omega
        · obtain ⟨q1, q2⟩ := List.getElem?_eq_some_iff.1 k6
          obtain ⟨q3, q4⟩ := List.getElem?_eq_some_iff.1 m6
          have := (List.getElem_inj hn).1 (q2.trans q4.symm)
          exact hne (by rw [this])
    rw [k3, m3] at hbb
    obtain ⟨⟨g, hg1, hg2⟩, s1, s2, s3⟩ := hr.sep i1 i2 o1 o2 k1 m1 hii (by rw [← renO_own k2]; exact hown) hbb
    obtain ⟨e1, e2⟩ := renO_fam k2 hg1
    obtain ⟨e3, _⟩ := renO_fam m2 hg2
    obtain ⟨g', hg'⟩ := Option.isSome_iff_exists.1 e2
    rw [hg'] at e1 e3
    exact ⟨⟨g', e1.symm, e3.symm⟩, by rw [renO_own m2]; exact s1, by rw [k3, m3]; exact s2, by rw [k3, m3]; exact s3⟩
  · obtain ⟨i, o, h1, h2, h3, _⟩ := orig j x hx
    exact ⟨i, o, h1, by rw [← renO_own h2]; exact hown, by rw [← h3]; exact hk⟩

/-! ### In which order -/
mutual
def idsV : AV → List Nat
  | .lit _ => []
  | .ptr i _ | .sl i _ _ _ _ | .mp i | .yld i => [i]
  | .fn _ a b => idsL a ++ idsL b
  | .agg a | .tup a => idsL a
def idsL : List AV → List Nat
  | [] => []
  | a :: r => idsV a ++ idsL r
end
def idsO : AObj → List Nat
  | .cells none _ cs => idsL cs
  | .cells (some g) _ cs => idsL cs ++ [g]
  | .map es _ => es.flatMap fun x => idsV x.1 ++ idsV x.2.1
  | .iter mid _ _ _ => [mid]
  | _ => []
def reach (h : Hp) (n0 : Nat) : Nat → List Nat → List Nat → List Nat
  | 0, _, acc => acc
  | _ + 1, [], acc => acc
  | k + 1, i :: todo, acc => match Nat.blt i n0 || acc.contains i with
    | true => reach h n0 k todo acc
    | false => match h.get i with
      | some o => reach h n0 k (todo ++ idsO o) (acc ++ [i])
      | none => reach h n0 k todo acc

/-- The outcome of a call, with new names. -/
def canon (n0 : Nat) (v : AV) (st : St) : AV × St :=
  match Nat.beq st.n n0 with
  | true => (v, st)
  | false =>
    let ord := reach st.h n0 400 (idsV v ++ (st.h.filter fun x => Nat.blt x.1 n0 && !(objLt n0 x.2)).flatMap fun x => idsO x.2) []
    match decide ord.Nodup && ord.all (Nat.ble n0) with
    | false => (v, st)
    | true => match renV (rho n0 ord) v, renOld (rho n0 ord) n0 st.h, renNew (rho n0 ord) st.h n0 ord with
      | some v', some a, some b => (v', ⟨b ++ a, n0 + ord.length⟩)
      | _, _, _ => (v, st)

theorem CallW.canon {P : Program} {g : FuncId} {args : List AV} {st : St} {k : AV → St → Prop} (h : CallW P g args st (fun v st' => k (canon st.n v st').1 (canon st.n v st').2)) : CallW P g args st k := by
  intro φ w cargs n h1 h2
  refine (h φ w cargs n h1 h2).mono fun e w' hp => ?_
  obtain ⟨v, cv, st', φ', he, hk, hv, hex, hrel, hfr⟩ := hp
  have same : k v st' → CPost φ st w k e w' := fun hk => ⟨v, cv, st', φ', he, hk, hv, hex, hrel, hfr⟩
  unfold Ev.canon at hk
  split at hk
  · exact same hk
  · simp only at hk
    generalize reach st'.h st.n 400 _ [] = ord at hk
    split at hk
    · exact same hk
    · rename_i hc
      simp only [Bool.and_eq_true, decide_eq_true_eq, List.all_eq_true] at hc
      split at hk
      · rename_i v' a b hv' ha hb
        obtain ⟨h3, h4⟩ := renSt_ok hrel hc.1 (fun i hi => Nat.le_of_ble_eq_true (hc.2 i hi)) ha hb
        refine ⟨v', cv, _, phi st.n ord φ', he, hk, renV_ok (rho_ok st.n ord φ') hv' hv, ⟨?_, fun id hid => ?_⟩, h3, ⟨hfr.os, hfr.tape, hfr.output, hfr.size, hfr.block, fun k hk => hfr.own k (h4 k hk)⟩⟩
        · rw [h1.n]; unfold phi; simp only; omega
        · rw [phi_old (by rw [← h1.n]; exact hid)]; exact hex.f id hid
      · exact same hk

end Go.Ev
