/- Own work of the verifier of watercress: FzA9. -/
import Derived.Test.YtpaifaemkoblcaaNa22
set_option linter.unusedVariables false
set_option linter.unusedSimpArgs false
set_option linter.unusedVariables false
namespace Go.Fz
open Go.Proofs
set_option maxRecDepth 100000
def gT (s : List (List Int)) : Nat → Nat → AV := fun i _ => zV (s.getD i [])
def llV (s : List (List Int)) : AV := .isl s.length 1 false (gT s)
theorem gT_below (s : List (List Int)) (i k : Nat) : Below 0 (gT s i k) := zV_below _
theorem llV_below (s : List (List Int)) : Below 0 (llV s) := Below.isl fun i k _ _ => gT_below s i k
theorem gT_app (s : List (List Int)) (l : List Int) : flatG 1 (gT s) s.length ++ [zV l] = flatG 1 (gT (s ++ [l])) (s ++ [l]).length := by
  rw [List.length_append, List.length_singleton]
  show _ = flatG 1 (gT (s ++ [l])) s.length ++ [zV ((s ++ [l]).getD s.length [])]
  have e1 : flatG 1 (gT (s ++ [l])) s.length = flatG 1 (gT s) s.length := flatG_congr fun i k hi => by
    show zV ((s ++ [l]).getD i []) = zV (s.getD i [])
    rw [List.getD_eq_getElem?_getD, List.getD_eq_getElem?_getD, List.getElem?_append_left hi]
  have e2 : (s ++ [l]).getD s.length [] = l := by simp [List.getD_eq_getElem?_getD]
  rw [e1, e2]
theorem objG_low {m sz L : Nat} {g : Nat → Nat → AV} (hg : ∀ i k, Below 0 (g i k)) : LowM m (fun q => objG q sz g L) := by
  cases L with
  | zero => exact LowM.nil
  | succ L => exact LowM.one (o := fun _ => .cells none false (flatG sz g (L + 1))) (MvO.ints (flatG_below hg _))
theorem slG_low {m sz L : Nat} : MvO m (fun q => .cells none false [slG q sz L]) := by
  cases L with
  | zero => exact MvO.ints (l := [nl3]) (AllB.ok ⟨Below.lit, trivial⟩)
  | succ L => exact MvO.slice
noncomputable def caParts : Code × Code := match findRF (bodyF Try.f136) with
  | some p => p
  | none => (.skip, .skip)
def caL : List (Nat × AV) := [(2, .ptr 40 0), (6, .fn (.func 137) [] [.ptr 39 0])]
noncomputable def caR : ALoop := { state := .ready, pending := none, tmps := ⟨13, getT caL⟩, params := #[7], assign := caParts.1, body := caParts.2, dfid := 41 }
def caF (r : ALoop) (X : AV) (B : Hp) : Hp := (42, .loop r) :: (41, .dfr) :: (40, .cells none false [X]) :: B
noncomputable def caH (s : List (List Int)) (q : Nat) : Hp := caF caR (slG q 1 s.length) (objG q 1 (gT s) s.length)
theorem caF_low {st : LoopState} {c : Option Code} {X : Nat → AV} {B : Nat → Hp} (hX : MvO 49 (fun q => .cells none false [X q])) (hB : LowM 49 B) : LowM 49 (fun q => caF { caR with state := st, pending := c } (X q) (B q)) := by
  have hp : ∀ {ρ : Nat → Nat} {n j : Nat}, (∀ i, i < 49 → i ≠ 48 → ρ i = i) → 49 ≤ n → j < 49 → j ≠ 48 → RenV ρ n (.ptr j 0) (.ptr j 0) := fun {ρ n j} hρ hn hj h48 => by
    have := RenV.ptr (ρ := ρ) (n := n) (j := j) (off := 0) (by omega)
    rwa [hρ j hj h48] at this
  refine LowM.cons (o := fun _ => .loop { caR with state := st, pending := c }) (by omega) (by omega) (MvO.of rfl rfl fun ρ n hρ hn => .base (.loop rfl rfl rfl rfl rfl (by show 41 = ρ 41; rw [hρ 41 (by omega) (by omega)]) (by show 41 < n; omega) rfl
    (RenV.getT (l := caL) ⟨hp hρ hn (by omega) (by omega), RenV.fn .nil (.cons (hp hρ hn (by omega) (by omega)) .nil), trivial⟩))) ?_
  refine LowM.cons (o := fun _ => .dfr) (by omega) (by omega) (MvO.of rfl rfl fun ρ n hρ hn => .base .dfr) ?_
  exact LowM.cons (o := fun q => .cells none false [X q]) (by omega) (by omega) hX hB
theorem caH_low (s : List (List Int)) : LowM 49 (caH s) ∧ IdsN (caH s) := by
  refine ⟨caF_low (st := caR.state) (c := caR.pending) slG_low (objG_low (gT_below s)), fun q id o hq hg => ?_⟩
  have := Hp.mem_of_get hg
  simp only [caH, caF, List.mem_cons, Prod.mk.injEq] at this
  rcases this with ⟨h, _⟩ | ⟨h, _⟩ | ⟨h, _⟩ | h
  · omega
  · omega
  · omega
  · have := objG_mem h
    cases this
    exact .inl rfl
def caK (N : Nat) (s : List (List Int)) (H : Nat → Hp) : Prop := H = caH s
set_option maxHeartbeats 4000000 in
theorem ca_core (s : List (List Int)) (l : List Int) (hmu : s.length < 1000000) (KK : AV → (Nat → Hp) → Prop)
    (hend : ∀ st' : St, st'.n = 51 → (∀ id o, Hp.get (caH (s ++ [l]) 50) id = some o → st'.h.get id = some o ∨ (id = 50 ∧ ∃ fm ro l, o = .cells none ro l ∧ st'.h.get id = some (.cells fm ro l))) → LowF 49 KK (.lit (.bool true)) st') :
    YieldW Try.prog 42 [zV l] ⟨caH s 48, 49⟩ (LowF 49 KK) := by
  obtain ⟨O, hO⟩ : ∃ O : Ar, O = std := ⟨_, rfl⟩
  have happ := gT_app s l
  unfold caH at hend ⊢
  rw [List.length_append, List.length_singleton] at happ hend
  obtain ⟨g2, hg2⟩ : ∃ g, gT (s ++ [l]) = g := ⟨_, rfl⟩
  rw [hg2] at happ hend
  obtain ⟨g1, hg1⟩ : ∃ g, gT s = g := ⟨_, rfl⟩
  rw [hg1] at happ ⊢
  obtain ⟨L, hL⟩ : ∃ L, s.length = L := ⟨_, rfl⟩
  rw [hL] at happ hend hmu ⊢
  have hob : objG 50 1 g2 (L + 1) = [(50, .cells none false (flatG 1 g2 (L + 1)))] := rfl
  rw [hob] at hend
  obtain ⟨G2, hG2⟩ : ∃ G, flatG 1 g2 (L + 1) = G := ⟨_, rfl⟩
  rw [hG2] at happ hend
  obtain ⟨M, FL, hZ⟩ : ∃ M fl, zV l = intsV M false fl := ⟨_, _, rfl⟩
  rw [hZ] at happ ⊢
  unfold caF at hend ⊢
  have hget : ∀ (h' : Hp) (fm : Option Nat), h'.get 42 = some (.loop caR) → h'.get 41 = some .dfr → h'.get 40 = some (.cells none false [slG 50 1 (L + 1)]) → h'.get 50 = some (.cells fm false G2) →
      ∀ id o, Hp.get [(42, .loop caR), (41, .dfr), (40, .cells none false [slG 50 1 (L + 1)]), (50, .cells none false G2)] id = some o → h'.get id = some o ∨ (id = 50 ∧ ∃ fm ro l, o = .cells none ro l ∧ h'.get id = some (.cells fm ro l)) := fun h' fm k5 k4 k3 k51 id o ho => by
    have := Hp.mem_of_get ho
    simp only [List.mem_cons, Prod.mk.injEq, List.not_mem_nil, or_false] at this
    rcases this with ⟨rfl, rfl⟩ | ⟨rfl, rfl⟩ | ⟨rfl, rfl⟩ | ⟨rfl, rfl⟩
    · exact .inl k5
    · exact .inl k4
    · exact .inl k3
    · exact .inr ⟨rfl, fm, false, G2, rfl, k51⟩
  refine YieldW.of_round (r := caR) rfl rfl ?_
  cases L with
  | zero =>
    refine SW.run tok hO (by cbv <;> rfl) (by trivial) ?_
    refine ⟨caR, rfl, rfl, SW.block ?_⟩
    obtain ⟨RB, hRB⟩ : ∃ r, r = ({ caR with state := .busy } : ALoop) := ⟨_, rfl⟩
    rw [← hRB]
    refine SW.runN tok hO 3 (by cbv <;> rfl) (by trivial) ?_
    refine OpsW.appNil tok (by cbv <;> rfl) (by rfl) (by kernel_rfl) (by rfl) (by rfl) ?_
    refine OpsW.run tok hO (by cbv <;> rfl) (by trivial) ?_
    subst hRB
    exact ⟨_, rfl, hend _ rfl (hget _ none rfl rfl rfl (congrArg (fun z => some (AObj.cells none false z)) happ))⟩
  | succ L =>
    obtain ⟨G, hG⟩ : ∃ G, G = flatG 1 g1 (L + 1) := ⟨_, rfl⟩
    have hGo : objG 48 1 g1 (L + 1) = [(48, .cells none false G)] := by rw [hG]; rfl
    rw [hGo]
    refine SW.run tok hO (by cbv <;> rfl) (by trivial) ?_
    refine ⟨caR, rfl, rfl, SW.block ?_⟩
    obtain ⟨RB, hRB⟩ : ∃ r, r = ({ caR with state := .busy } : ALoop) := ⟨_, rfl⟩
    rw [← hRB]
    refine SW.runN tok hO 3 (by cbv <;> rfl) (by trivial) ?_
    refine OpsW.appOne (g := g1) tok (by cbv <;> rfl) (by rfl) (by rfl) hG (by kernel_rfl) (by rfl) (by rfl) (by omega) fun G' hG' => ?_
    refine OpsW.run tok hO (by cbv <;> rfl) (by trivial) ?_
    subst hRB
    have hG2' : G' = G2 := hG'.trans happ
    exact ⟨_, rfl, hend _ rfl (hget _ (some 48) rfl rfl rfl (congrArg (fun z => some (AObj.cells (some 48) false z)) hG2'))⟩
theorem FarmD.trs_len {f : FarmD} (g : f.Good) : f.trs.length < 1000000 := by
  have h1 := List.length_filter_le f.rgt f.chL
  have h2 := chE_len (lo := f.slo) (hi := f.shi) f.ns [] (fun i hi => by have := (g.spring i (by simpa using hi)).2; omega)
  have h3 : (31 : Nat) ^ f.ns ≤ 31 ^ 4 := Nat.pow_le_pow_right (by omega) g.ns
  have h4 : f.trs.length ≤ f.chL.length := h1
  have h5 : f.chL.length ≤ 31 ^ f.ns := h2
  omega
theorem ca_step (N : Nat) (E : List (List Int)) (hN : E.length < 1000000) : coStep (caK N) (fun _ _ _ => False) 42 E := by
  intro s l post H hE hH
  have hH : H = caH s := hH
  subst hH
  have hs : s.length < 1000000 := by
    have := congrArg List.length hE
    rw [List.length_append] at this
    omega
  exact YieldW.fam (by omega) (ca_core s l hs _ fun st' e h => ⟨caH (s ++ [l]), 50, .inl ⟨rfl, rfl⟩, Below.lit, (caH_low (s ++ [l])).1, by omega, .inr ⟨by omega, by omega⟩, h⟩)
end Go.Fz
