/- Own work of the verifier of watercress: FzMw. -/
import Derived.Test.YtpaifaemkoblcaaNa17
set_option linter.unusedVariables false
set_option linter.unusedSimpArgs false
set_option linter.unusedVariables false
namespace Go.Fz
section
variable {P : Program}
theorem CPost.renX {φ : Fi} {st : St} {w : World} {k2 k : AV → St → Prop} {e : Ending} {w' : World} (hn : φ.n = st.n) (h : CPost φ st w k2 e w')
    (hk : ∀ v st2', k2 v st2' → ∃ v1 st1' σ, k v1 st1' ∧ RenV σ st1'.n v1 v ∧ st.n ≤ st1'.n ∧ WeakX σ st2' st1' ∧ ∀ id, id < st.n → σ id = id) : CPost φ st w k e w' := by
  obtain ⟨v, cv, st2', φ2, rfl, hkv, hv, he, hr2, hf⟩ := h
  obtain ⟨v1, st1', σ, hk1, hren, hle, hx, hσ⟩ := hk v st2' hkv
  obtain ⟨q1, q2⟩ := hx.ok hr2
  refine ⟨v1, cv, st1', renF φ2 σ st1'.n, rfl, hk1, hren φ2 cv hv, ⟨by rw [hn]; exact hle, fun id hid => ?_, he.z⟩, q1, hf.trans q2⟩
  show φ2.f (σ id) = φ.f id
  rw [hσ id (by rw [← hn]; exact hid)]
  exact he.f id hid
theorem CallW.renX {g : FuncId} {args : List AV} {st : St} {k2 k : AV → St → Prop} (h : CallW P g args st k2)
    (hk : ∀ v st2', k2 v st2' → ∃ v1 st1' σ, k v1 st1' ∧ RenV σ st1'.n v1 v ∧ st.n ≤ st1'.n ∧ WeakX σ st2' st1' ∧ ∀ id, id < st.n → σ id = id) : CallW P g args st k :=
  fun φ w cargs n h1 h2 => (h φ w cargs n h1 h2).mono fun _ _ hc => hc.renX h1.n hk
theorem YieldW.renX {y : Nat} {args : List AV} {st : St} {k2 k : AV → St → Prop} (h : YieldW P y args st k2)
    (hk : ∀ v st2', k2 v st2' → ∃ v1 st1' σ, k v1 st1' ∧ RenV σ st1'.n v1 v ∧ st.n ≤ st1'.n ∧ WeakX σ st2' st1' ∧ ∀ id, id < st.n → σ id = id) : YieldW P y args st k :=
  fun φ w cargs n h1 h2 h3 => by
    obtain ⟨fn, tmps, assign, body, h4, h5⟩ := h φ w cargs n h1 h2 h3
    exact ⟨fn, tmps, assign, body, h4, h5.mono fun _ _ hc => hc.renX h1.n hk⟩
theorem RenX.anyFam {ρ : Nat → Nat} {n : Nat} {o : AObj} {ro : Bool} {l : List AV} (fm : Option Nat) (h : RenX ρ n o (.cells none ro l)) : RenX ρ n o (.cells fm ro l) := by
  cases h with
  | base h => cases h with | cells h => exact .base (.cells h)
def LowF (m : Nat) (k : AV → (Nat → Hp) → Prop) (v : AV) (st' : St) : Prop := ∃ H' q', k v H' ∧ Below 0 v ∧ LowM m H' ∧ m ≤ st'.n ∧ (q' = 48 ∨ (m ≤ q' ∧ q' < st'.n)) ∧
  ∀ id o, Hp.get (H' q') id = some o → st'.h.get id = some o ∨ (id = q' ∧ ∃ fm ro l, o = .cells none ro l ∧ st'.h.get id = some (.cells fm ro l))
theorem YieldW.fam {y m : Nat} {args : List AV} {h : Hp} {k : AV → (Nat → Hp) → Prop} (hm : 48 < m) (hy : YieldW P y args ⟨h, m⟩ (LowF m k)) : YieldW P y args ⟨h, m⟩ (LowP m k) :=
  hy.renX fun v st2' ⟨H', q', hk, hb, hl, hn, hq, hg⟩ => by
    have hq1 : q' = 48 ∨ m ≤ q' := by omega
    refine ⟨v, ⟨H' q', st2'.n⟩, fun i => i, ⟨H', q', hk, hb, hl, hn, hq, fun _ _ h => h⟩, RenV.closed hb, hn, ⟨fun id o ho => ?_, fun i j oi oj hi hj hij pi pj h1 h2 => ⟨hij, fun ⟨f, k1, k2⟩ => ?_⟩⟩, fun _ _ => rfl⟩
    · obtain ⟨o1, h1, h2⟩ := hl.ren q' q' id o hq1 hq1 ho
      have e : (if id = q' then q' else id) = id := by split <;> omega
      rw [e, ho] at h1
      cases h1
      have h3 := (hl.id q' id o hq1 ho).1
      refine ⟨by show id < st2'.n; omega, ?_⟩
      have h4 := h2 (fun i => i) st2'.n (fun _ _ _ => rfl) rfl hn (by omega)
      rcases hg id o ho with h5 | ⟨_, fm, ro, l, rfl, h5⟩
      · exact ⟨o, h5, h4⟩
      · exact ⟨_, h5, h4.anyFam fm⟩
    · have key : ∀ a oa pa, Hp.get (H' q') a = some oa → st2'.h.get a = some pa → pa.fam = some f → a = q' := fun a oa pa ha hp hf => by
        rcases hg a oa ha with h5 | ⟨h5, _⟩
        · have h6 : some oa = some pa := h5.symm.trans hp
          cases h6
          rw [(hl.id q' a oa hq1 ha).2.1] at hf
          cases hf
        · exact h5
      exact hij ((key i oi pi hi h1 k1).trans (key j oj pj hj h2 k2).symm)
end
end Go.Fz
