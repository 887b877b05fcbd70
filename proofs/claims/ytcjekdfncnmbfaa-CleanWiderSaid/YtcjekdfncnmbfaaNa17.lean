/- Own work of the verifier of watercress: FzMw. -/
import Derived.Test.YtcjekdfncnmbfaaNa12
set_option linter.unusedVariables false
set_option linter.unusedSimpArgs false
set_option linter.unusedVariables false
namespace Go.Fz
section
variable {P : Program}
theorem CPost.renX {φ : Fi} {st : St} {w : World} {k2 k : AV → St → Prop} {e : Ending} {w' : World} (hn : φ.n = st.n) (h : CPost φ st w k2 e w')
    (hk : ∀ v st2', k2 v st2' → ∃ v1 st1' σ, k v1 st1' ∧ RenV σ st1'.n v1 v ∧ st.n ≤ st1'.n ∧ WeakX σ st2' st1' ∧ ∀ id, id < st.n → σ id = id) : CPost φ st w k e w' := by
  obtain ⟨v, cv, st2', φ2, rfl, hkv, hv, he, hr2, hf⟩ := h
  obtain ⟨v1, st1', σ, hk1, hren, hle, hx, hσ⟩ := hk v st2' hkv
  obtain ⟨q1, q2⟩ := hx.ok hr2
  refine ⟨v1, cv, st1', renF φ2 σ st1'.n, rfl, hk1, hren φ2 cv hv, ⟨by rw [hn]; exact hle, fun id hid => ?_, he.z⟩, q1, hf.trans q2⟩
  show φ2.f (σ id) = φ.f id
  rw [hσ id (by rw [← hn]; exact hid)]
  exact he.f id hid
theorem YieldW.renX {y : Nat} {args : List AV} {st : St} {k2 k : AV → St → Prop} (h : YieldW P y args st k2)
    (hk : ∀ v st2', k2 v st2' → ∃ v1 st1' σ, k v1 st1' ∧ RenV σ st1'.n v1 v ∧ st.n ≤ st1'.n ∧ WeakX σ st2' st1' ∧ ∀ id, id < st.n → σ id = id) : YieldW P y args st k :=
  fun φ w cargs n h1 h2 h3 => by
    obtain ⟨fn, tmps, assign, body, h4, h5⟩ := h φ w cargs n h1 h2 h3
    exact ⟨fn, tmps, assign, body, h4, h5.mono fun _ _ hc => hc.renX h1.n hk⟩
theorem RenX.anyFam {ρ : Nat → Nat} {n : Nat} {o : AObj} {ro : Bool} {l : List AV} (fm : Option Nat) (h : RenX ρ n o (.cells none ro l)) : RenX ρ n o (.cells fm ro l) := by
  cases h with
  | base h => cases h with | cells h => exact .base (.cells h)
def LowF (m : Nat) (k : AV → (Nat → Hp) → Prop) (v : AV) (st' : St) : Prop := ∃ H' q', k v H' ∧ Below 0 v ∧ LowM m H' ∧ m ≤ st'.n ∧ (q' = 48 ∨ (m ≤ q' ∧ q' < st'.n)) ∧
  ∀ id o, Hp.get (H' q') id = some o → st'.h.get id = some o ∨ (id = q' ∧ ∃ fm ro l, o = .cells none ro l ∧ st'.h.get id = some (.cells fm ro l))
theorem YieldW.fam {y m : Nat} {args : List AV} {h : Hp} {k : AV → (Nat → Hp) → Prop} (hm : 48 < m) (hy : YieldW P y args ⟨h, m⟩ (LowF m k)) : YieldW P y args ⟨h, m⟩ (LowP m k) :=
  hy.renX fun v st2' ⟨H', q', hk, hb, hl, hn, hq, hg⟩ => by
    have hq1 : q' = 48 ∨ m ≤ q' := by omega
    refine ⟨v, ⟨H' q', st2'.n⟩, fun i => i, ⟨H', q', hk, hb, hl, hn, hq, fun _ _ h => h⟩, RenV.closed hb, hn, ⟨fun id o ho => ?_, fun i j oi oj hi hj hij pi pj h1 h2 => ⟨hij, fun ⟨f, k1, k2⟩ => ?_⟩⟩, fun _ _ => rfl⟩
    · obtain ⟨o1, h1, h2⟩ := hl.ren q' q' id o hq1 hq1 ho
      have e : (if id = q' then q' else id) = id := by split <;> omega
      rw [e, ho] at h1
      cases h1
      have h3 := (hl.id q' id o hq1 ho).1
      refine ⟨by show id < st2'.n; omega, ?_⟩
      have h4 := h2 (fun i => i) st2'.n (fun _ _ _ => rfl) rfl hn (by omega)
      rcases hg id o ho with h5 | ⟨_, fm, ro, l, rfl, h5⟩
      · exact ⟨o, h5, h4⟩
      · exact ⟨_, h5, h4.anyFam fm⟩
    · have key : ∀ a oa pa, Hp.get (H' q') a = some oa → st2'.h.get a = some pa → pa.fam = some f → a = q' := fun a oa pa ha hp hf => by
        rcases hg a oa ha with h5 | ⟨h5, _⟩
        · have h6 : some oa = some pa := h5.symm.trans hp
          cases h6
          rw [(hl.id q' a oa hq1 ha).2.1] at hf
          cases hf
        · exact h5
      exact hij ((key i oi pi hi h1 k1).trans (key j oj pj hj h2 k2).symm)
theorem CallW.own {g : FuncId} {args : List AV} {k2 : AV → St → Prop} {r : Nat → AV} {bl : Nat → Hp} (hargs : ∀ a ∈ args, Below 0 a) (h : CallW P g args ⟨[], 0⟩ k2)
    (hbl : ∀ n id o, Hp.get (bl n) id = some o → id = n ∧ o.fam = none ∧ o.own = true)
    (hk : ∀ v st2', k2 v st2' → ∃ q, (∀ (σ : Nat → Nat) n, σ n = q → RenV σ (n + 1) (r n) v) ∧ ∀ n o, Hp.get (bl n) n = some o → q < st2'.n ∧ ∃ o1, st2'.h.get q = some o1 ∧ ∀ (σ : Nat → Nat), σ n = q → RenX σ (n + 1) o o1) (n : Nat) :
    CallW P g args ⟨[], n⟩ (fun v st' => v = r n ∧ st' = ⟨bl n, n + 1⟩) := fun φ w cargs m hr ha => by
  have hw : WeakX (fun i => i) ⟨[], n⟩ ⟨[], 0⟩ := ⟨fun _ _ h => (nomatch h), fun _ _ _ _ h => (nomatch h)⟩
  obtain ⟨r1, z2⟩ := hw.ok hr
  have ha' : VRL (renF φ (fun i => i) 0) args cargs := VRL.mono (φ := ⟨φ.f, 0, φ.z⟩) (φ' := renF φ (fun i => i) 0) ⟨Nat.zero_le _, fun id hid => absurd hid (Nat.not_lt_zero id), fun b c hb => hb⟩ (Below.list hargs ha)
  refine (h _ w cargs m r1 ha').mono fun e w' hc => ?_
  obtain ⟨v, cv, st2', φ2, rfl, hkv, hv, he, hr2, hf⟩ := hc
  obtain ⟨q, hren, hobj⟩ := hk v st2' hkv
  have hn2 : φ2.n = st2'.n := hr2.n
  obtain ⟨p1, p2⟩ := hr2.pad (fun j => φ.f (j - st2'.n)) (n := st2'.n + (n + 1)) (Nat.le_add_right _ _)
  have hpe := padF_ext φ2 (fun j => φ.f (j - st2'.n)) (n := st2'.n + (n + 1)) (by rw [hn2]; exact Nat.le_add_right _ _)
  obtain ⟨σ, hσ⟩ : ∃ σ : Nat → Nat, σ = fun i => if i = n then q else st2'.n + i := ⟨_, rfl⟩
  have s1 : σ n = q := by rw [hσ]; exact if_pos rfl
  have hx : WeakX σ ⟨st2'.h, st2'.n + (n + 1)⟩ ⟨bl n, n + 1⟩ := ⟨fun id o ho => by
    obtain ⟨rfl, h2, h3⟩ := hbl n id o ho
    obtain ⟨h4, o1, h5, h6⟩ := hobj id o ho
    exact ⟨Nat.lt_succ_self _, o1, by rw [s1]; exact h5, h6 σ s1⟩, fun i j oi oj hi hj hij => absurd ((hbl n i oi hi).1.trans (hbl n j oj hj).1.symm) hij⟩
  obtain ⟨q1, q2⟩ := hx.ok p1
  refine ⟨r n, cv, ⟨bl n, n + 1⟩, renF (padF φ2 (fun j => φ.f (j - st2'.n)) (st2'.n + (n + 1))) σ (n + 1), rfl, ⟨rfl, rfl⟩, hren σ n s1 _ _ (hv.mono hpe), ⟨?_, fun id hid => ?_, fun b c hb => he.z b c hb⟩, q1, (z2.trans hf).trans (p2.trans q2)⟩
  · show φ.n ≤ n + 1
    rw [hr.n]; exact Nat.le_succ _
  · have hid : id < n := by rw [hr.n] at hid; exact hid
    show (if σ id < φ2.n then φ2.f (σ id) else φ.f (σ id - st2'.n)) = φ.f id
    have e : σ id = st2'.n + id := by rw [hσ]; exact if_neg (by omega)
    rw [e, if_neg (by omega), Nat.add_sub_cancel_left]
theorem apart_own {R : Hp} (h : ∀ id o, R.get id = some o → o.own = true) (n : Nat) : Apart R ⟨[], n⟩ := ⟨h, fun _ _ _ => rfl, fun i j oi oj _ hj => by cases hj⟩
theorem CallW.ownAt {g : FuncId} {args : List AV} {r : Nat → AV} {bl : Nat → Hp} {R : Hp} {n : Nat} (hR : ∀ id o, R.get id = some o → o.own = true) (hbl : ∀ id o, Hp.get (bl n) id = some o → o.own = true)
    (h : CallW P g args ⟨[], n⟩ (fun v st' => v = r n ∧ st' = ⟨bl n, n + 1⟩)) : CallW P g args ⟨R, n⟩ (fun v st' => v = r n ∧ st' = ⟨R ++ bl n, n + 1⟩) := by
  have h2 := CallW.frame (apart_own hR n) h (fun v st' hk id o hg => .inl (by obtain ⟨_, rfl⟩ := hk; exact hbl id o hg))
  have e : withR R ⟨[], n⟩ = ⟨R, n⟩ := by unfold withR; rw [List.append_nil]
  rw [e] at h2
  exact h2.mono fun v s hk => by
    obtain ⟨st', ⟨h3, h4⟩, h5⟩ := hk
    exact ⟨h3, by rw [h5, h4]; rfl⟩
end
end Go.Fz
