/- Own work of the verifier of watercress: FzA3. -/
import Derived.Test.YtpaifaemkoblcaaNa19
set_option linter.unusedVariables false
set_option linter.unusedSimpArgs false
set_option linter.unusedVariables false
namespace Go.Fz
open Go.Proofs
set_option maxRecDepth 100000
set_option maxHeartbeats 4000000 in
theorem cloneI_ok (n : Nat) (ex : Bool) (fl : Nat → Int) (hn : n < 1000) : Pure Try.prog 129 [intsV n ex fl] (intsV n false fl) := by
  obtain ⟨O, hO⟩ : ∃ O : Ar, O = std := ⟨_, rfl⟩
  refine pure_of_body tok 3 Try.func129 en129 rfl ⟨intsV_below n ex fl, trivial⟩ (intsV_below n false fl) ?_
  refine SW.seqRun tok hO (by cbv <;> rfl) (by trivial) ?_
  refine SW.seq ?_
  refine SW.seq (SW.runN tok hO 1 (by cbv <;> rfl) (by trivial) ?_)
  refine OpsW.nilIsl tok (by cbv <;> rfl) (fun hz => ?_) ?_
  · refine OpsW.nil ?_
    refine SW.cond (t := true) (by cbv <;> rfl) ?_
    refine SW.seqRun tok hO (by cbv <;> rfl) (by trivial) ?_
    refine SW.ret ⟨_, _, rfl, rfl, ?_⟩
    subst hz
    exact Eqv.nil
  · refine OpsW.nil ?_
    refine SW.cond (t := false) (by cbv <;> rfl) (SW.skip ?_)
    refine SW.seq (SW.runN tok hO 2 (by cbv <;> rfl) (by trivial) ?_)
    rcases Nat.eq_zero_or_pos n with hz | hz
    · subst hz
      refine OpsW.appA tok (by cbv <;> rfl) (by exact append_none (by kernel_rfl) (by rfl)) ?_
      refine OpsW.run tok hO (by cbv <;> rfl) (by trivial) ?_
      refine SW.ret ⟨_, _, rfl, rfl, ?_⟩
      show Eqv (.isl 0 1 true _) (.isl 0 1 false _)
      exact Eqv.trans Eqv.islX (Eqv.isl rfl fun i k hi hk => absurd hi (Nat.not_lt_zero i))
    · refine OpsW.appA tok (by cbv <;> rfl) (by exact append_empty (by kernel_rfl) (by rfl) (by omega) hz fun _ _ => rfl) ?_
      obtain ⟨G, hG⟩ : ∃ G, flatG 1 (intC fl) n = G := ⟨_, rfl⟩
      refine (show OpsW _ _ _ _ _ _ ⟨(1, .cells none false (flatG 1 (intC fl) n)) :: _, _⟩ from ?_)
      rw [hG]
      refine OpsW.run tok hO (by cbv <;> rfl) (by trivial) ?_
      refine SW.ret ⟨_, _, rfl, rfl, ?_⟩
      show Eqv (frz _ _ 3 (.sl 1 0 n 1 false)) _
      rw [frz_slE (fm := none) (G := G) rfl rfl (by rw [← hG, flatG_length]; omega), ← hG]
      exact Eqv.isl rfl fun i' k hi' hk => Eqv.of (frz_flat hi' hk rfl)
theorem clone_nil : Pure Try.prog 129 [nl3] (zV []) := Pure.eqv (cloneI_ok 0 false (zL []) (by omega)) (.cons Eqv.nil .nil)
section
variable (f : FarmD) (K : List (List Int) → (Nat → Hp) → Prop) (stop : List (List Int) → List Int → (Nat → Hp) → Prop) (fc y : Nat) (E : List (List Int))
def coR (s : List (List Int)) (l : List Int) (v : AV) (H' : Nat → Hp) : Prop := (v = .lit (.bool true) ∧ K (s ++ [l]) H') ∨ (v = .lit (.bool false) ∧ stop s l H')
def coStep : Prop := ∀ s l post H, E = s ++ l :: post → K s H → YieldW Try.prog y [zV l] ⟨H 48, 49⟩ (LowP 49 (coR K stop s l))
def coQ (n q qm : Nat) (R : Hp) (p : List Int) (seen F : List (List Int)) (v : AV) (st' : St) : Prop := ∃ H' qm' n' fm', n ≤ n' ∧ (qm' = qm ∨ n ≤ qm') ∧ qm' < n' ∧ LowM 49 H' ∧ st' = ⟨coH fc y (laO q fm' p ++ (R ++ H' qm')), n'⟩ ∧ ((v = .lit (.bool true) ∧ K (seen ++ F) H') ∨ (v = .lit (.bool false) ∧ ∃ pre l post, F = pre ++ l :: post ∧ stop (seen ++ pre) l H'))
def coK : Prop := ∀ s H, K s H → LowM 49 H ∧ ∀ q, (q = 48 ∨ 49 ≤ q) → ∃ fm ro, (H q).get fc = some (.cells fm ro (farmL f))
variable {f K stop fc y E}
theorem co_own {n L q : Nat} {fm : Option Nat} {p : List Int} {R : Hp} {H : Nat → Hp} {qm : Nat} (hI : CoI fc n L R H qm) (hq : p ≠ [] → 51 ≤ q ∧ q < n ∧ q ≠ qm) :
    ∀ id o, Hp.get (coH fc y (laO q fm p ++ R)) id = some o → 49 ≤ id ∧ id ≠ qm ∧ id < n ∧ o.own = true := fun id o ho => by
  have hn := hI.lo
  have hqm := hI.qm
  unfold coH at ho
  rcases List.mem_cons.1 (Hp.mem_of_get ho) with h | h
  · cases h; exact ⟨by omega, by omega, by omega, rfl⟩
  rcases List.mem_cons.1 h with h | h
  · cases h; exact ⟨by omega, by omega, by omega, rfl⟩
  rcases List.mem_append.1 h with h | h
  · obtain ⟨h1, h2⟩ := laO_mem h
    cases h2
    have := hq h1
    exact ⟨by omega, by omega, by omega, rfl⟩
  · have := hI.own _ h
    exact ⟨by omega, by omega, by omega, this.2.2.2⟩
set_option maxHeartbeats 8000000 in
theorem co_leaf0 (hfc : fc < 49) (hfc2 : fc ≠ 48) (hy : y < 49) (hy2 : y ≠ 48) (hid : coK f K fc) (step : coStep K stop y E)  (hp : (([] : List Int)).length = f.ns) (hsm : f.ns < 1000) (seen post : List (List Int)) (hE : E = seen ++ [([] : List Int)] ++ post) (n q : Nat) (fm : Option Nat) (R : Hp) (H : Nat → Hp) (qm : Nat)
    (hI : CoI fc n (([] : List Int)).length R H qm) (hq : ([] : List Int) ≠ [] → 51 ≤ q ∧ q < n ∧ q ≠ qm) (hK : K seen H) :
    CallW Try.prog 131 [laV q (([] : List Int)), .ptr fc 0, .ptr 49 0, .ptr 50 0] ⟨coH fc y (laO q fm (([] : List Int)) ++ (R ++ H qm)), n⟩ (coQ K stop fc y n q qm R (([] : List Int)) seen [([] : List Int)]) := by
  obtain ⟨O, hO⟩ : ∃ O : Ar, O = std := ⟨_, rfl⟩
  obtain ⟨hlow, hfar⟩ := hid _ _ hK
  obtain ⟨fm0, ro0, hfg⟩ := hfar qm (by have := hI.qm; omega)
  have hqq : ([] : List Int) ≠ [] → 51 ≤ q := fun h => (hq h).1
  have hfg2 := load_springs ((co_low (y := y) (fm := fm) hI hqq hfc).trans hfg)
  have hs := YieldW.asideM (R := coH fc y (laO q fm (([] : List Int)) ++ R)) (q := qm) (n := n) hy hy2 (co_own hI hq) (by omega) (by have := hI.lo; omega) (by have := hI.qm; omega) hI.qm.2 hlow (fun a ha => by rw [List.mem_singleton.1 ha]; exact zV_below _) (step seen (([] : List Int)) post H (by rw [hE]; simp) hK)
  have happ : ∀ Hx : Hp, coH fc y (laO q fm (([] : List Int)) ++ R) ++ Hx = coH fc y (laO q fm (([] : List Int)) ++ (R ++ Hx)) := fun Hx => by simp [coH, List.append_assoc]
  have hs2 := hs.mono (k' := fun v st' => ∃ H' qm' n', coR K stop seen (([] : List Int)) v H' ∧ LowM 49 H' ∧ n ≤ n' ∧ (qm' = qm ∨ n ≤ qm') ∧ qm' < n' ∧ st' = ⟨coH fc y (laO q fm (([] : List Int)) ++ (R ++ H' qm')), n'⟩) (fun v st' ⟨H', q', n', h1, h2, h3, h4, h5, h6⟩ => ⟨H', q', n', h1, h2, h3, h4, h5, by rw [h6, happ]⟩)
  rw [happ] at hs2
  clear hs
  have c1 := fun st => clone_nil.call st
  have hfin : ∀ v H' qm' n', coR K stop seen (([] : List Int)) v H' → LowM 49 H' → n ≤ n' → (qm' = qm ∨ n ≤ qm') → qm' < n' → coQ K stop fc y n q qm R (([] : List Int)) seen [([] : List Int)] v ⟨coH fc y (laO q fm (([] : List Int)) ++ (R ++ H' qm')), n'⟩ := fun v H' qm' n' h1 h2 h3 h4 h5 => ⟨H', qm', n', fm, h3, h4, h5, h2, rfl, by
    rcases h1 with ⟨h1, hk⟩ | ⟨h1, hk⟩
    · exact .inl ⟨h1, hk⟩
    · exact .inr ⟨h1, [], ([] : List Int), [], rfl, by rw [List.append_nil]; exact hk⟩⟩
  have hRb : ∀ v H', coR K stop seen (([] : List Int)) v H' → v = .lit (.bool true) ∨ v = .lit (.bool false) := fun v H' h => h.elim (fun h => .inl h.1) (fun h => .inr h.1)
  obtain ⟨Z, hZ⟩ : ∃ Z, zV (([] : List Int)) = Z := ⟨_, rfl⟩
  simp only [hZ] at c1 hs2
  obtain ⟨RR, hRR⟩ : ∃ r, coR K stop seen (([] : List Int)) = r := ⟨_, rfl⟩
  rw [hRR] at hs2 hfin hRb
  obtain ⟨QQ, hQQ⟩ : ∃ r, coQ K stop fc y n q qm R (([] : List Int)) seen [([] : List Int)] = r := ⟨_, rfl⟩
  rw [hQQ] at hfin ⊢
  have hns : f.ns = 0 := hp.symm
  obtain ⟨A, hA⟩ : ∃ A : Hp → Hp, A = fun Hx => laO q fm (([] : List Int)) ++ (R ++ Hx) := ⟨_, rfl⟩
  have hA2 : ∀ Hx, laO q fm (([] : List Int)) ++ (R ++ Hx) = A Hx := fun Hx => by rw [hA]
  simp only [hA2] at hs2 hfg2 hfin ⊢
  unfold laV
  obtain ⟨N, hN⟩ : ∃ N, f.ns = N := ⟨_, rfl⟩
  obtain ⟨AH, hAH⟩ : ∃ a, A (H qm) = a := ⟨_, rfl⟩
  rw [hAH] at hs2 hfg2 ⊢
  unfold coH at hs2 hfg2 hfin ⊢
  refine callW_of_body tok Try.func131 rfl ?_
  refine SW.seqRun tok hO (by cbv <;> rfl) (by trivial) ?_
  refine SW.seq ?_
  refine SW.seq (SW.runN tok hO 3 (by cbv <;> rfl) (by trivial) ?_)
  refine OpsW.ldI tok (by cbv <;> rfl) hfg2 ?_
  refine OpsW.run tok hO (by cbv <;> rfl) (by trivial) ?_
  refine SW.condS (by cbv <;> rfl) (fun h1 => ?_) (fun h1 => ?_)
  rotate_left
  · exfalso
    subst hO; simp [std, hns] at h1
  refine SW.seqRunD tok mixed hO (by kernel_rfl) (by cbv <;> rfl) (by trivial) ?_
  refine AnyE.callS en129 (c1 _) (by cbv <;> rfl) (by cbv <;> rfl) ?_
  refine AnyE.run tok hO (by kernel_rfl) (by cbv <;> rfl) (by trivial) ?_
  refine AnyE.apply (c := .yld y) (args := [Z]) (by cbv <;> rfl) (by cbv <;> rfl) hs2 fun v st' hk => ?_
  obtain ⟨H', q', n', h1, h2, h3, h4, h5, rfl⟩ := hk
  have hf := hfin v H' q' n' h1 h2 h3 h4 h5
  rcases hRb _ _ h1 with rfl | rfl
  · refine AnyE.run tok hO (by kernel_rfl) (by cbv <;> rfl) (by trivial) ?_
    exact SW.ret ⟨_, _, rfl, rfl, hf⟩
  · refine AnyE.run tok hO (by kernel_rfl) (by cbv <;> rfl) (by trivial) ?_
    exact SW.ret ⟨_, _, rfl, rfl, hf⟩
set_option maxHeartbeats 8000000 in
theorem co_leaf1 (hfc : fc < 49) (hfc2 : fc ≠ 48) (hy : y < 49) (hy2 : y ≠ 48) (hid : coK f K fc) (step : coStep K stop y E) (v0 : Int) (p : List Int) (hp : (v0 :: p).length = f.ns) (hsm : f.ns < 1000) (seen post : List (List Int)) (hE : E = seen ++ [v0 :: p] ++ post) (n q : Nat) (fm : Option Nat) (R : Hp) (H : Nat → Hp) (qm : Nat)
    (hI : CoI fc n (v0 :: p).length R H qm) (hq : v0 :: p ≠ [] → 51 ≤ q ∧ q < n ∧ q ≠ qm) (hK : K seen H) :
    CallW Try.prog 131 [laV q (v0 :: p), .ptr fc 0, .ptr 49 0, .ptr 50 0] ⟨coH fc y (laO q fm (v0 :: p) ++ (R ++ H qm)), n⟩ (coQ K stop fc y n q qm R (v0 :: p) seen [v0 :: p]) := by
  obtain ⟨O, hO⟩ : ∃ O : Ar, O = std := ⟨_, rfl⟩
  obtain ⟨hlow, hfar⟩ := hid _ _ hK
  obtain ⟨fm0, ro0, hfg⟩ := hfar qm (by have := hI.qm; omega)
  have hqq : v0 :: p ≠ [] → 51 ≤ q := fun h => (hq h).1
  have hfg2 := load_springs ((co_low (y := y) (fm := fm) hI hqq hfc).trans hfg)
  have hs := YieldW.asideM (R := coH fc y (laO q fm (v0 :: p) ++ R)) (q := qm) (n := n) hy hy2 (co_own hI hq) (by omega) (by have := hI.lo; omega) (by have := hI.qm; omega) hI.qm.2 hlow (fun a ha => by rw [List.mem_singleton.1 ha]; exact zV_below _) (step seen (v0 :: p) post H (by rw [hE]; simp) hK)
  have happ : ∀ Hx : Hp, coH fc y (laO q fm (v0 :: p) ++ R) ++ Hx = coH fc y (laO q fm (v0 :: p) ++ (R ++ Hx)) := fun Hx => by simp [coH, List.append_assoc]
  have hs2 := hs.mono (k' := fun v st' => ∃ H' qm' n', coR K stop seen (v0 :: p) v H' ∧ LowM 49 H' ∧ n ≤ n' ∧ (qm' = qm ∨ n ≤ qm') ∧ qm' < n' ∧ st' = ⟨coH fc y (laO q fm (v0 :: p) ++ (R ++ H' qm')), n'⟩) (fun v st' ⟨H', q', n', h1, h2, h3, h4, h5, h6⟩ => ⟨H', q', n', h1, h2, h3, h4, h5, by rw [h6, happ]⟩)
  rw [happ] at hs2
  clear hs
  have hgq : (coH fc y (laO q fm (v0 :: p) ++ (R ++ H qm))).get q = some (.cells fm false (flatG 1 (intC (zL (v0 :: p))) (p.length + 1))) := by
    have := (hq (by simp)).1
    show Hp.get ((50, _) :: (49, _) :: (q, _) :: (R ++ H qm)) q = _
    simp only [Hp.get]
    rw [if_neg (by omega), if_neg (by omega), if_pos trivial]
  have c1 := clone_ok (ex := false) (off := 0) (n := p.length + 1) (N := p.length + 1) (fl := zL (v0 :: p)) (id := q) (fm := fm) (ro := false) (r := zV (v0 :: p)) (st := ⟨coH fc y (laO q fm (v0 :: p) ++ (R ++ H qm)), n⟩) hgq rfl (by omega) (by rw [List.length_cons] at hp; omega)
    (Eqv.isl rfl fun i k hi _ => Eqv.of (by show iV (zL (v0 :: p) (0 + i)) = iV (zL (v0 :: p) i); rw [Nat.zero_add])) (zV_below _)
  have hfin : ∀ v H' qm' n', coR K stop seen (v0 :: p) v H' → LowM 49 H' → n ≤ n' → (qm' = qm ∨ n ≤ qm') → qm' < n' → coQ K stop fc y n q qm R (v0 :: p) seen [v0 :: p] v ⟨coH fc y (laO q fm (v0 :: p) ++ (R ++ H' qm')), n'⟩ := fun v H' qm' n' h1 h2 h3 h4 h5 => ⟨H', qm', n', fm, h3, h4, h5, h2, rfl, by
    rcases h1 with ⟨h1, hk⟩ | ⟨h1, hk⟩
    · exact .inl ⟨h1, hk⟩
    · exact .inr ⟨h1, [], v0 :: p, [], rfl, by rw [List.append_nil]; exact hk⟩⟩
  have hRb : ∀ v H', coR K stop seen (v0 :: p) v H' → v = .lit (.bool true) ∨ v = .lit (.bool false) := fun v H' h => h.elim (fun h => .inl h.1) (fun h => .inr h.1)
  obtain ⟨Z, hZ⟩ : ∃ Z, zV (v0 :: p) = Z := ⟨_, rfl⟩
  rw [hZ] at c1 hs2
  obtain ⟨RR, hRR⟩ : ∃ r, coR K stop seen (v0 :: p) = r := ⟨_, rfl⟩
  rw [hRR] at hs2 hfin hRb
  obtain ⟨QQ, hQQ⟩ : ∃ r, coQ K stop fc y n q qm R (v0 :: p) seen [v0 :: p] = r := ⟨_, rfl⟩
  rw [hQQ] at hfin ⊢
  have hns : f.ns = p.length + 1 := hp.symm
  obtain ⟨L, hL⟩ : ∃ L, p.length + 1 = L := ⟨_, rfl⟩
  rw [hL] at hns c1
  obtain ⟨A, hA⟩ : ∃ A : Hp → Hp, A = fun Hx => laO q fm (v0 :: p) ++ (R ++ Hx) := ⟨_, rfl⟩
  have hA2 : ∀ Hx, laO q fm (v0 :: p) ++ (R ++ Hx) = A Hx := fun Hx => by rw [hA]
  simp only [hA2] at c1 hs2 hfg2 hfin ⊢
  show CallW Try.prog 131 [.sl q 0 (p.length + 1) 1 false, .ptr fc 0, .ptr 49 0, .ptr 50 0] _ _
  rw [hL]
  obtain ⟨N, hN⟩ : ∃ N, f.ns = N := ⟨_, rfl⟩
  obtain ⟨AH, hAH⟩ : ∃ a, A (H qm) = a := ⟨_, rfl⟩
  rw [hAH] at c1 hs2 hfg2 ⊢
  unfold coH at c1 hs2 hfg2 hfin ⊢
  refine callW_of_body tok Try.func131 rfl ?_
  refine SW.seqRun tok hO (by cbv <;> rfl) (by trivial) ?_
  refine SW.seq ?_
  refine SW.seq (SW.runN tok hO 3 (by cbv <;> rfl) (by trivial) ?_)
  refine OpsW.ldI tok (by cbv <;> rfl) hfg2 ?_
  refine OpsW.run tok hO (by cbv <;> rfl) (by trivial) ?_
  refine SW.condS (by cbv <;> rfl) (fun h1 => ?_) (fun h1 => ?_)
  rotate_left
  · exfalso
    subst hO; simp [std, hns] at h1
  refine SW.seqRunD tok mixed hO (by kernel_rfl) (by cbv <;> rfl) (by trivial) ?_
  refine AnyE.callS en129 c1 (by cbv <;> rfl) (by cbv <;> rfl) ?_
  refine AnyE.run tok hO (by kernel_rfl) (by cbv <;> rfl) (by trivial) ?_
  refine AnyE.apply (c := .yld y) (args := [Z]) (by cbv <;> rfl) (by cbv <;> rfl) hs2 fun v st' hk => ?_
  obtain ⟨H', q', n', h1, h2, h3, h4, h5, rfl⟩ := hk
  have hf := hfin v H' q' n' h1 h2 h3 h4 h5
  rcases hRb _ _ h1 with rfl | rfl
  · refine AnyE.run tok hO (by kernel_rfl) (by cbv <;> rfl) (by trivial) ?_
    exact SW.ret ⟨_, _, rfl, rfl, hf⟩
  · refine AnyE.run tok hO (by kernel_rfl) (by cbv <;> rfl) (by trivial) ?_
    exact SW.ret ⟨_, _, rfl, rfl, hf⟩
end
end Go.Fz
