/- Own work of the verifier of watercress: FzMv. -/
import Derived.Test.YtpaifaemkoblcaaNa16
set_option linter.unusedVariables false
set_option linter.unusedSimpArgs false
set_option linter.unusedVariables false
namespace Go.Fz
section
variable {P : Program}
structure BackM (ρ : Nat → Nat) (st1 st2 : St) (k : AV → St → Prop) (v : AV) (st2' : St) : Prop where
  ex : ∃ st1' σ, k v st1' ∧ Below 0 v ∧ st1.n ≤ st1'.n ∧ WeakX σ ⟨st2'.h, st2'.n + st1'.n⟩ st1' ∧ ∀ id, id < st1.n → (σ id < st2.n ∧ ρ (σ id) = id) ∨ σ id = st2'.n + id
theorem CPost.canonM {φ : Fi} {st1 st2 : St} {w : World} {ρ : Nat → Nat} (hr : Rel φ st1 w) (hw : WeakX ρ st1 st2) {k2 k : AV → St → Prop} {e : Ending} {w' : World} (h : CPost (renF φ ρ st2.n) st2 w k2 e w') (hk : ∀ v st2', k2 v st2' → BackM ρ st1 st2 k v st2') : CPost φ st1 w k e w' := by
  obtain ⟨v, cv, st2', φ2, rfl, hkv, hv, he, hr2, hf⟩ := h
  obtain ⟨st1', σ, hk1, hbv, hn, hx, hσ⟩ := (hk v st2' hkv).ex
  obtain ⟨p1, p2⟩ := hr2.pad (fun j => φ.f (j - st2'.n)) (n := st2'.n + st1'.n) (Nat.le_add_right _ _)
  obtain ⟨q1, q2⟩ := hx.ok p1
  obtain ⟨_, z2⟩ := hw.ok hr
  have hn2 : φ2.n = st2'.n := hr2.n
  refine ⟨v, cv, st1', renF (padF φ2 (fun j => φ.f (j - st2'.n)) (st2'.n + st1'.n)) σ st1'.n, rfl, hk1, ?_, ⟨?_, fun id hid => ?_, fun b c hb => he.z b c hb⟩, q1, (z2.trans hf).trans (p2.trans q2)⟩
  · exact VR.mono (φ := ⟨φ2.f, 0, φ2.z⟩) (φ' := renF (padF φ2 (fun j => φ.f (j - st2'.n)) (st2'.n + st1'.n)) σ st1'.n) ⟨Nat.zero_le _, fun id hid => absurd hid (Nat.not_lt_zero id), fun b c hb => hb⟩ (hbv φ2 cv hv)
  · show φ.n ≤ st1'.n
    rw [hr.n]; exact hn
  · show (if σ id < φ2.n then φ2.f (σ id) else φ.f (σ id - st2'.n)) = φ.f id
    rcases hσ id (by rw [← hr.n]; exact hid) with ⟨h1, h2⟩ | h1
    · have hlt : σ id < φ2.n := Nat.lt_of_lt_of_le h1 he.n
      rw [if_pos hlt, he.f (σ id) h1]
      show φ.f (ρ (σ id)) = φ.f id
      rw [h2]
    · rw [h1]
      rw [if_neg (by omega), Nat.add_sub_cancel_left]
theorem CallW.canonM {g : FuncId} {args : List AV} {st1 st2 : St} {ρ : Nat → Nat} (hargs : RenVs ρ st2.n args args) (hw : WeakX ρ st1 st2) {k2 k : AV → St → Prop} (h : CallW P g args st2 k2)
    (hk : ∀ v st2', k2 v st2' → BackM ρ st1 st2 k v st2') : CallW P g args st1 k := fun φ w cargs n hr ha => by
  obtain ⟨r1, _⟩ := hw.ok hr
  exact (h _ w cargs n r1 (hargs.ok ha)).mono fun _ _ hc => hc.canonM hr hw hk
theorem YieldW.canonM {y : Nat} {args : List AV} {st1 st2 : St} {ρ : Nat → Nat} (hy : ρ y = y) (hy2 : y < st2.n) (hargs : ∀ a ∈ args, Below 0 a) (hw : WeakX ρ st1 st2) {k2 k : AV → St → Prop} (h : YieldW P y args st2 k2)
    (hk : ∀ v st2', k2 v st2' → BackM ρ st1 st2 k v st2') : YieldW P y args st1 k := fun φ w cargs n hr _ ha => by
  obtain ⟨r1, _⟩ := hw.ok hr
  have ha' : VRL (renF φ ρ st2.n) args cargs := VRL.mono (φ := ⟨φ.f, 0, φ.z⟩) (φ' := renF φ ρ st2.n) ⟨Nat.zero_le _, fun id hid => absurd hid (Nat.not_lt_zero id), fun b c hb => hb⟩ (Below.list hargs ha)
  obtain ⟨fn, tmps, assign, body, h4, h5⟩ := h _ w cargs n r1 hy2 ha'
  have e : (renF φ ρ st2.n).f y = φ.f y := by show φ.f (ρ y) = φ.f y; rw [hy]
  rw [e] at h4 h5
  exact ⟨fn, tmps, assign, body, h4, h5.mono fun _ _ hc => hc.canonM hr hw hk⟩
structure LowM (m : Nat) (H : Nat → Hp) : Prop where
  id : ∀ q id o, (q = 48 ∨ m ≤ q) → (H q).get id = some o → (id = q ∨ (id < m ∧ id ≠ 48)) ∧ o.fam = none ∧ o.own = true
  ren : ∀ q q' id o', (q = 48 ∨ m ≤ q) → (q' = 48 ∨ m ≤ q') → (H q').get id = some o' → ∃ o, (H q).get (if id = q' then q else id) = some o ∧ ∀ (ρ : Nat → Nat) n, (∀ i, i < m → i ≠ 48 → ρ i = i) → ρ q' = q → m ≤ n → q' < n → RenX ρ n o' o
def MvO (m : Nat) (o : Nat → AObj) : Prop := (∀ q, (o q).fam = none ∧ (o q).own = true) ∧ ∀ q q' (ρ : Nat → Nat) n, (∀ i, i < m → i ≠ 48 → ρ i = i) → ρ q' = q → m ≤ n → q' < n → RenX ρ n (o q') (o q)
theorem LowM.nil {m : Nat} : LowM m (fun _ => []) := ⟨fun _ _ _ _ h => (nomatch h), fun _ _ _ _ _ _ h => (nomatch h)⟩
theorem LowM.cons {m id0 : Nat} {o : Nat → AObj} {H : Nat → Hp} (h1 : id0 < m) (h2 : id0 ≠ 48) (ho : MvO m o) (h : LowM m H) : LowM m (fun q => (id0, o q) :: H q) :=
  ⟨fun q id x hq hg => by
    simp only [Hp.get] at hg
    split at hg
    · rename_i e; cases hg; subst e; exact ⟨.inr ⟨h1, h2⟩, ho.1 q⟩
    · exact h.id q id x hq hg, fun q q' id x hq hq' hg => by
    simp only [Hp.get] at hg ⊢
    split at hg
    · rename_i e; cases hg; subst e
      have e1 : ¬ id0 = q' := by omega
      rw [if_neg e1]
      exact ⟨_, if_pos rfl, ho.2 q q'⟩
    · rename_i e
      obtain ⟨o, k1, k2⟩ := h.ren q q' id x hq hq' hg
      refine ⟨o, ?_, k2⟩
      rw [if_neg ?_]
      · exact k1
      · split
        · omega
        · exact e⟩
theorem LowM.one {m : Nat} {o : Nat → AObj} (ho : MvO m o) : LowM m (fun q => [(q, o q)]) :=
  ⟨fun q id x hq hg => by
    simp only [Hp.get] at hg
    split at hg
    · rename_i e; cases hg; exact ⟨.inl e.symm, ho.1 q⟩
    · exact (nomatch hg), fun q q' id x hq hq' hg => by
    simp only [Hp.get] at hg ⊢
    split at hg
    · rename_i e; cases hg
      rw [if_pos e.symm]
      exact ⟨_, if_pos rfl, ho.2 q q'⟩
    · exact (nomatch hg)⟩
theorem LowX.mv {h : Hp} {m : Nat} (hm : 48 ≤ m) (hh : LowX 48 h) : LowM m (fun _ => h) :=
  ⟨fun q id o hq hg => by
    obtain ⟨h1, h2, h3, _⟩ := hh id o hg
    exact ⟨by omega, h2, h3⟩, fun q q' id o' hq hq' hg => by
    obtain ⟨h1, h2, h3, h4⟩ := hh id o' hg
    refine ⟨o', ?_, fun ρ n h5 h6 h7 h8 => h4 ρ n (fun i hi => h5 i (by omega) (by omega)) (by omega)⟩
    rw [if_neg (by omega)]; exact hg⟩
theorem MvO.of {m : Nat} {o : AObj} (h1 : o.fam = none) (h2 : o.own = true) (h : ∀ (ρ : Nat → Nat) n, (∀ i, i < m → i ≠ 48 → ρ i = i) → m ≤ n → RenX ρ n o o) : MvO m (fun _ => o) := ⟨fun _ => ⟨h1, h2⟩, fun q q' ρ n hρ _ hn _ => h ρ n hρ hn⟩
theorem MvO.cells {m : Nat} {l : List AV} (h : ∀ (ρ : Nat → Nat) n, (∀ i, i < m → i ≠ 48 → ρ i = i) → m ≤ n → RenVs ρ n l l) : MvO m (fun _ => .cells none false l) := MvO.of rfl rfl fun ρ n hρ hn => .base (.cells (h ρ n hρ hn))
theorem MvO.ints {m : Nat} {l : List AV} (h : ∀ a ∈ l, Below 0 a) : MvO m (fun _ => .cells none false l) := MvO.cells fun ρ n _ _ => RenVs.closed h
theorem MvO.slice {m off len sz : Nat} {ex : Bool} : MvO m (fun q => .cells none false [.sl q off len sz ex]) := ⟨fun _ => ⟨rfl, rfl⟩, fun q q' ρ n _ h2 _ h4 => .base (.cells (.cons (by rw [← h2]; exact RenV.sl h4) .nil))⟩
def mvR (q : Nat) (i : Nat) : Nat := if i = 48 then q else i
theorem LowM.weak {m n q : Nat} {H : Nat → Hp} (hm : 48 < m) (hq : q = 48 ∨ m ≤ q) (hH : LowM m H) : WeakX (mvR q) ⟨H q, n⟩ ⟨H 48, m⟩ :=
  ⟨fun id o ho => by
    have h1 := (hH.id 48 id o (.inl rfl) ho).1
    obtain ⟨o1, h2, h3⟩ := hH.ren q 48 id o hq (.inl rfl) ho
    exact ⟨by show id < m; omega, o1, h2, h3 _ _ (fun i _ hi => if_neg hi) (if_pos rfl) (Nat.le_refl _) hm⟩, fun i j oi oj hi hj hij pi pj h1 h2 => by
    have k1 := (hH.id 48 i oi (.inl rfl) hi).1
    have k2 := (hH.id 48 j oj (.inl rfl) hj).1
    have k3 := (hH.id q _ pi hq h1).2.1
    refine ⟨?_, fun ⟨f, k4, _⟩ => by rw [k3] at k4; cases k4⟩
    unfold mvR
    split <;> split <;> omega⟩
def LowP (m : Nat) (k : AV → (Nat → Hp) → Prop) (v : AV) (st' : St) : Prop := ∃ H' q', k v H' ∧ Below 0 v ∧ LowM m H' ∧ m ≤ st'.n ∧ (q' = 48 ∨ (m ≤ q' ∧ q' < st'.n)) ∧ ∀ id o, Hp.get (H' q') id = some o → st'.h.get id = some o
def MvP (m n q : Nat) (k : AV → (Nat → Hp) → Prop) (R : Hp) (v : AV) (st' : St) : Prop := ∃ H' q' n', k v H' ∧ LowM m H' ∧ n ≤ n' ∧ (q' = q ∨ n ≤ q') ∧ q' < n' ∧ st' = ⟨R ++ H' q', n'⟩
theorem LowM.back {m n q : Nat} {H H' : Nat → Hp} {k : AV → (Nat → Hp) → Prop} {v : AV} {st2' : St} {q' : Nat} (hm : 48 < m) (hmn : m ≤ n) (hq : q = 48 ∨ m ≤ q) (hqn : q < n) (hk : k v H') (hb : Below 0 v) (hl : LowM m H') (hn : m ≤ st2'.n) (hq' : q' = 48 ∨ (m ≤ q' ∧ q' < st2'.n)) (hg : ∀ id o, Hp.get (H' q') id = some o → st2'.h.get id = some o) :
    BackM (mvR q) ⟨H q, n⟩ ⟨H 48, m⟩ (MvP m n q k []) v st2' := by
  obtain ⟨p, hp⟩ : ∃ p, p = if q' = 48 then q else n := ⟨_, rfl⟩
  have hp1 : p = 48 ∨ m ≤ p := by rw [hp]; split <;> omega
  have hp2 : p = q ∨ n ≤ p := by rw [hp]; split <;> omega
  have hp3 : p < n + 1 := by rw [hp]; split <;> omega
  have hq1 : q' = 48 ∨ m ≤ q' := by omega
  obtain ⟨σ, hσ⟩ : ∃ σ : Nat → Nat, σ = fun i => if i = p then q' else if i < m ∧ i ≠ 48 then i else st2'.n + i := ⟨_, rfl⟩
  have s1 : σ p = q' := by rw [hσ]; exact if_pos rfl
  have s2 : ∀ i, i < m → i ≠ 48 → σ i = i := fun i h1 h2 => by
    rw [hσ]
    show (if i = p then q' else _) = i
    rw [if_neg (by omega), if_pos ⟨h1, h2⟩]
  have hget : ∀ i o, Hp.get (H' p) i = some o → ∃ o1, Hp.get (H' q') (σ i) = some o1 ∧ RenX σ (n + 1) o o1 := fun i o ho => by
    obtain ⟨o1, h1, h2⟩ := hl.ren q' p i o hq1 hp1 ho
    refine ⟨o1, ?_, h2 σ (n + 1) s2 s1 (by omega) hp3⟩
    rw [← h1]
    have h3 := (hl.id p i o hp1 ho).1
    by_cases e : i = p
    · rw [e, s1, if_pos rfl]
    · rw [if_neg e, s2 i (by omega) (by omega)]
  refine ⟨⟨H' p, n + 1⟩, σ, ⟨H', p, n + 1, hk, hl, Nat.le_succ _, hp2, hp3, rfl⟩, hb, Nat.le_succ _, ⟨fun i o ho => ?_, fun i j oi oj hi hj hij pi pj h1 h2 => ?_⟩, fun i hi => ?_⟩
  · have h3 := (hl.id p i o hp1 ho).1
    obtain ⟨o1, h1, h2⟩ := hget i o ho
    exact ⟨by show i < n + 1; omega, o1, hg _ _ h1, h2⟩
  · have k1 := (hl.id p i oi hp1 hi).1
    have k2 := (hl.id p j oj hp1 hj).1
    obtain ⟨o1, h3, _⟩ := hget i oi hi
    have e := (hg _ _ h3).symm.trans h1
    cases e
    have k3 := (hl.id q' _ _ hq1 h3).2.1
    refine ⟨?_, fun ⟨f, k4, _⟩ => by rw [k3] at k4; cases k4⟩
    by_cases e1 : i = p
    · rw [e1, s1, s2 j (by omega) (by omega)]; omega
    · rw [s2 i (by omega) (by omega)]
      by_cases e2 : j = p
      · rw [e2, s1]; omega
      · rw [s2 j (by omega) (by omega)]; exact hij
  · have hi : i < n := hi
    show (σ i < m ∧ mvR q (σ i) = i) ∨ σ i = st2'.n + i
    by_cases e : i = p
    · have hqq : q' = 48 := by
        rcases Nat.lt_or_ge q' 48 with h | h
        · omega
        · rcases Nat.lt_or_ge 48 q' with h' | h'
          · exfalso
            rw [if_neg (by omega)] at hp
            omega
          · omega
      rw [e, s1, hqq]
      refine .inl ⟨hm, ?_⟩
      show (if 48 = 48 then q else 48) = p
      rw [if_pos rfl, hp, if_pos hqq]
    · by_cases h2 : i < m ∧ i ≠ 48
      · rw [s2 i h2.1 h2.2]
        exact .inl ⟨h2.1, if_neg h2.2⟩
      · right
        rw [hσ]
        show (if i = p then q' else if i < m ∧ i ≠ 48 then i else st2'.n + i) = _
        rw [if_neg e, if_neg h2]
theorem CallW.lowM {g : FuncId} {args : List AV} {H : Nat → Hp} {m n q : Nat} {k : AV → (Nat → Hp) → Prop} (hm : 48 < m) (hmn : m ≤ n) (hq : q = 48 ∨ m ≤ q) (hqn : q < n) (hH : LowM m H) (hargs : RenVs (mvR q) m args args)
    (h : CallW P g args ⟨H 48, m⟩ (LowP m k)) : CallW P g args ⟨H q, n⟩ (MvP m n q k []) :=
  CallW.canonM hargs (hH.weak hm hq) h fun v st2' ⟨H', q', hk, hb, hl, hn, hq', hg⟩ => LowM.back hm hmn hq hqn hk hb hl hn hq' hg
theorem YieldW.lowM {y : Nat} {args : List AV} {H : Nat → Hp} {m n q : Nat} {k : AV → (Nat → Hp) → Prop} (hy : y < m) (hy2 : y ≠ 48) (hm : 48 < m) (hmn : m ≤ n) (hq : q = 48 ∨ m ≤ q) (hqn : q < n) (hH : LowM m H) (hargs : ∀ a ∈ args, Below 0 a)
    (h : YieldW P y args ⟨H 48, m⟩ (LowP m k)) : YieldW P y args ⟨H q, n⟩ (MvP m n q k []) :=
  YieldW.canonM (ρ := mvR q) (st2 := ⟨H 48, m⟩) (if_neg hy2) hy hargs (hH.weak hm hq) h fun v st2' ⟨H', q', hk, hb, hl, hn, hq', hg⟩ => LowM.back hm hmn hq hqn hk hb hl hn hq' hg
theorem LowM.apart {R : Hp} {H : Nat → Hp} {m n q : Nat} (hR : ∀ id o, R.get id = some o → m ≤ id ∧ id ≠ q ∧ o.own = true) (hq : q = 48 ∨ m ≤ q) (hH : LowM m H) : Apart R ⟨H q, n⟩ :=
  ⟨fun id o h => (hR id o h).2.2, fun id o h => by
    cases hg : Hp.get (H q) id with
    | none => rfl
    | some o' =>
      have h1 := (hH.id q id o' hq hg).1
      have h2 := hR id o h
      omega, fun i j oi oj hi hj ⟨f, _, k2⟩ => by
    rw [(hH.id q j oj hq hj).2.1] at k2; cases k2⟩
theorem CallW.asideM {g : FuncId} {args : List AV} {R : Hp} {H : Nat → Hp} {m n q : Nat} {k : AV → (Nat → Hp) → Prop} (hR : ∀ id o, R.get id = some o → m ≤ id ∧ id ≠ q ∧ id < n ∧ o.own = true) (hm : 48 < m) (hmn : m ≤ n) (hq : q = 48 ∨ m ≤ q) (hqn : q < n) (hH : LowM m H) (hargs : RenVs (mvR q) m args args)
    (h : CallW P g args ⟨H 48, m⟩ (LowP m k)) : CallW P g args ⟨R ++ H q, n⟩ (MvP m n q k R) :=
  (CallW.frame (R := R) (st := ⟨H q, n⟩) (hH.apart (fun id o ho => ⟨(hR id o ho).1, (hR id o ho).2.1, (hR id o ho).2.2.2⟩) hq) (CallW.lowM hm hmn hq hqn hH hargs h) (fun v st' ⟨H', q', n', hk, hl, h1, h2, h3, e⟩ => by
    subst e
    intro id o ho
    exact .inl (hl.id q' id o (by omega) ho).2.2)).mono
    fun v s ⟨st', ⟨H', q', n', hk, hl, h1, h2, h3, e⟩, es⟩ => by subst e; exact ⟨H', q', n', hk, hl, h1, h2, h3, es⟩
theorem YieldW.asideM {y : Nat} {args : List AV} {R : Hp} {H : Nat → Hp} {m n q : Nat} {k : AV → (Nat → Hp) → Prop} (hy : y < m) (hy2 : y ≠ 48) (hR : ∀ id o, R.get id = some o → m ≤ id ∧ id ≠ q ∧ id < n ∧ o.own = true) (hm : 48 < m) (hmn : m ≤ n) (hq : q = 48 ∨ m ≤ q) (hqn : q < n) (hH : LowM m H) (hargs : ∀ a ∈ args, Below 0 a)
    (h : YieldW P y args ⟨H 48, m⟩ (LowP m k)) : YieldW P y args ⟨R ++ H q, n⟩ (MvP m n q k R) :=
  (YieldW.frame (R := R) (st := ⟨H q, n⟩) (hH.apart (fun id o ho => ⟨(hR id o ho).1, (hR id o ho).2.1, (hR id o ho).2.2.2⟩) hq) (YieldW.lowM hy hy2 hm hmn hq hqn hH hargs h) (fun v st' ⟨H', q', n', hk, hl, h1, h2, h3, e⟩ => by
    subst e
    intro id o ho
    exact .inl (hl.id q' id o (by omega) ho).2.2)).mono
    fun v s ⟨st', ⟨H', q', n', hk, hl, h1, h2, h3, e⟩, es⟩ => by subst e; exact ⟨H', q', n', hk, hl, h1, h2, h3, es⟩
end
end Go.Fz
