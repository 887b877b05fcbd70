/- Own work of the verifier of watercress: FzA4, FzN3, FzN4, FzN5, FzA5. -/
import Derived.Test.YtpaifaemkoblcaaNa20
import Derived.Test.YtpaifaemkoblcaaNa9
import Derived.Test.YtpaifaemkoblcaaNa14
set_option linter.unusedVariables false
set_option linter.unusedSimpArgs false
set_option linter.unusedVariables false
namespace Go.Fz
open Go.Proofs
set_option maxRecDepth 100000
theorem CallW.sub {P : Program} {g : FuncId} {args : List AV} {h1 h2 : Hp} {n : Nat} {k : AV → St → Prop} (hs : ∀ id o, h2.get id = some o → h1.get id = some o ∧ id < n) (h : CallW P g args ⟨h2, n⟩ k) : CallW P g args ⟨h1, n⟩ k := fun φ w cargs m hr ha => by
  have hw0 : Weak n ⟨⟨0, fun _ => .any⟩, []⟩ ⟨h1, n⟩ ⟨⟨0, fun _ => .any⟩, []⟩ ⟨h2, n⟩ := ⟨rfl, rfl, (fun _ h => nomatch h), fun _ => .inl rfl, Nat.le_refl _, Nat.le_refl _, fun id o ho => ⟨(hs id o ho).1, (hs id o ho).2, .inl rfl⟩⟩
  obtain ⟨k1, _, k3⟩ := hw0.ok (a := { tmps := #[], defers := [] }) hr ⟨⟨rfl, fun _ => .any _⟩, rfl, fun _ h => by cases h⟩
  have hn : n = φ.n := hr.n.symm
  have hsame : cutN φ n = φ := by cases φ; simp only [cutN, hn]
  change Rel (cutN φ n) ⟨h2, n⟩ w at k1
  change Fr φ ⟨h1, n⟩ w (cutN φ n) ⟨h2, n⟩ w at k3
  rw [hsame] at k1 k3
  exact (h φ w cargs m k1 ha).mono fun e w' ⟨v, cv, st', φ', h1, hk, hv, he', hr', hf⟩ => ⟨v, cv, st', φ', h1, hk, hv, he', hr', k3.trans hf⟩
theorem zL_snoc (p : List Int) (v : Int) : flatG 1 (intC (setI (zL p) p.length v)) (p.length + 1) = flatG 1 (intC (zL (p ++ [v]))) (p.length + 1) := flatG_congr fun i k hi => by
  show iV (setI (zL p) p.length v i) = iV (zL (p ++ [v]) i)
  by_cases e : i = p.length
  · subst e; rw [setI_self, zL_eq]
  · rw [setI_ne e, zL_lt (by omega)]
theorem laO_snoc {q : Nat} {fm : Option Nat} : ∀ (p : List Int) (v : Int), laO q fm (p ++ [v]) = [(q, .cells fm false (flatG 1 (intC (zL (p ++ [v]))) (p.length + 1)))]
  | [], v => rfl
  | a :: p, v => by
    show [(q, AObj.cells fm false (flatG 1 (intC (zL (a :: (p ++ [v])))) ((p ++ [v]).length + 1)))] = _
    rw [List.length_append]; rfl
theorem laV_snoc {q : Nat} : ∀ (p : List Int) (v : Int), laV q (p ++ [v]) = .sl q 0 (p.length + 1) 1 false
  | [], v => rfl
  | a :: p, v => by
    show AV.sl q 0 ((p ++ [v]).length + 1) 1 false = _
    rw [List.length_append]; rfl
theorem coH_sub {fc y : Nat} {A B : Hp} {id : Nat} {o : AObj} (h : id ≠ 50 → id ≠ 49 → Hp.get A id = some o → Hp.get B id = some o) (hA : Hp.get (coH fc y A) id = some o) : Hp.get (coH fc y B) id = some o := by
  unfold coH at hA ⊢
  simp only [Hp.get] at hA ⊢
  by_cases e1 : 50 = id
  · rw [if_pos e1] at hA ⊢; exact hA
  · rw [if_neg e1] at hA ⊢
    by_cases e2 : 49 = id
    · rw [if_pos e2] at hA ⊢; exact hA
    · rw [if_neg e2] at hA ⊢
      exact h (fun e => e1 e.symm) (fun e => e2 e.symm) hA
theorem coH_get {fc y : Nat} {A : Hp} {id : Nat} (h : id ≠ 50 ∧ id ≠ 49) : Hp.get (coH fc y A) id = Hp.get A id := by
  unfold coH
  simp only [Hp.get]
  rw [if_neg (by omega), if_neg (by omega)]
section
variable {f : FarmD} {K : List (List Int) → (Nat → Hp) → Prop} {stop : List (List Int) → List Int → (Nat → Hp) → Prop} {fc y : Nat} {E : List (List Int)}
set_option maxHeartbeats 16000000 in
theorem co_step0 (hfc : fc < 49) (hfc2 : fc ≠ 48) (hy : y < 49) (hy2 : y ≠ 48) (hid : coK f K fc) (hg : ∀ i, i < f.ns → 0 ≤ f.slo i ∧ f.shi i ≤ 30) (hsm : f.ns < 900) (m : Nat)
    (ih : ∀ (p : List Int), p.length + m = f.ns → ∀ (seen post : List (List Int)), E = seen ++ chE f.slo f.shi m p ++ post → ∀ (n q : Nat) (fm : Option Nat) (R : Hp) (H : Nat → Hp) (qm : Nat), CoI fc n p.length R H qm → (p ≠ [] → 51 ≤ q ∧ q < n ∧ q ≠ qm) → K seen H →
      CallW Try.prog 131 [laV q p, .ptr fc 0, .ptr 49 0, .ptr 50 0] ⟨coH fc y (laO q fm p ++ (R ++ H qm)), n⟩ (coQ K stop fc y n q qm R p seen (chE f.slo f.shi m p)))
     (hp : (([] : List Int)).length + (m + 1) = f.ns) (seen post : List (List Int)) (hE : E = seen ++ chE f.slo f.shi (m + 1) (([] : List Int)) ++ post) (n q : Nat) (fm : Option Nat) (R : Hp) (H : Nat → Hp) (qm : Nat)
    (hI : CoI fc n (([] : List Int)).length R H qm) (hq : ([] : List Int) ≠ [] → 51 ≤ q ∧ q < n ∧ q ≠ qm) (hK : K seen H) :
    CallW Try.prog 131 [laV q (([] : List Int)), .ptr fc 0, .ptr 49 0, .ptr 50 0] ⟨coH fc y (laO q fm (([] : List Int)) ++ (R ++ H qm)), n⟩ (coQ K stop fc y n q qm R (([] : List Int)) seen (chE f.slo f.shi (m + 1) (([] : List Int)))) := by
  obtain ⟨O, hO⟩ : ∃ O : Ar, O = std := ⟨_, rfl⟩
  have hnat : ∀ i : Nat, O.nat (Int.ofNat i) = i := fun i => by subst hO; rfl
  obtain ⟨hlow, hfar⟩ := hid _ _ hK
  obtain ⟨fm0, ro0, hfg⟩ := hfar qm (by have := hI.qm; omega)
  have hqq : ([] : List Int) ≠ [] → 51 ≤ q := fun h => (hq h).1
  have hfg2 := load_springs ((co_low (y := y) (fm := fm) hI hqq hfc).trans hfg)
  obtain ⟨P, hP⟩ : ∃ P : List Int, P = ([] : List Int) := ⟨_, rfl⟩
  obtain ⟨L, hL⟩ : ∃ L, P.length = L := ⟨_, rfl⟩
  rw [← hP] at hp hE hI hfg2 ⊢
  replace hq : P ≠ [] → 51 ≤ q ∧ q < n ∧ q ≠ qm := fun h => absurd hP h
  replace hqq : P ≠ [] → 51 ≤ q := fun h => absurd hP h
  have hLns : L < f.ns := by omega
  have hgL := hg L hLns
  obtain ⟨F, hF⟩ : ∃ F : Nat → List (List Int), F = fun (c : Nat) => chE f.slo f.shi m (P ++ [f.slo L + (c : Int)]) := ⟨_, rfl⟩
  have hEE : chE f.slo f.shi (m + 1) P = (List.range (f.shi L - f.slo L + 1).toNat).flatMap F := by rw [hF, ← hL]; rfl
  rw [hEE] at hE ⊢
  have hsn : ∀ c, (List.range (c + 1)).flatMap F = (List.range c).flatMap F ++ F c := fun c => by rw [List.range_succ, List.flatMap_append]; simp
  have hin := hI.lo
  obtain ⟨QQ, hQQ⟩ : ∃ r, coQ K stop fc y n q qm R P seen ((List.range (f.shi L - f.slo L + 1).toNat).flatMap F) = r := ⟨_, rfl⟩
  have hQ0 : ∀ v H' qm' n' fm', n ≤ n' → (qm' = qm ∨ n ≤ qm') → qm' < n' → LowM 49 H' → ((v = .lit (.bool true) ∧ K (seen ++ (List.range (f.shi L - f.slo L + 1).toNat).flatMap F) H') ∨ (v = .lit (.bool false) ∧ ∃ pre l post, (List.range (f.shi L - f.slo L + 1).toNat).flatMap F = pre ++ l :: post ∧ stop (seen ++ pre) l H')) → QQ v ⟨coH fc y (laO q fm' P ++ (R ++ H' qm')), n'⟩ := fun v H' qm' n' fm' h1 h2 h3 h4 h5 => by rw [← hQQ]; exact ⟨H', qm', n', fm', h1, h2, h3, h4, rfl, h5⟩
  rw [hQQ]
  clear hQQ
  have hown := fun x hx => hI.own x hx
  have hkept := hI.kept
  have hqn := hI.qm
  obtain ⟨AH, hAH⟩ : ∃ a, laO q fm P ++ (R ++ H qm) = a := ⟨_, rfl⟩
  rw [hAH] at hfg2 ⊢
  obtain ⟨lo, hlo⟩ : ∃ v, f.slo L = v := ⟨_, rfl⟩
  obtain ⟨hi, hhi⟩ : ∃ v, f.shi L = v := ⟨_, rfl⟩
  rw [hlo, hhi] at hgL hEE hE hQ0
  rw [hlo] at hF
  have hX : laV q P = nl3 := by rw [hP]; rfl
  have hL0 : L = 0 := by rw [← hL, hP]; rfl
  rw [hX]
  unfold coH
  refine callW_of_body tok Try.func131 rfl ?_
  refine SW.seqRun tok hO (by cbv <;> rfl) (by trivial) ?_
  refine SW.seq ?_
  refine SW.seq (SW.runN tok hO 3 (by cbv <;> rfl) (by trivial) ?_)
  refine OpsW.ldI tok (by cbv <;> rfl) hfg2 ?_
  refine OpsW.run tok hO (by cbv <;> rfl) (by trivial) ?_
  refine SW.condS (by cbv <;> rfl) (fun h1 => ?_) (fun h1 => SW.skip ?_)
  · exfalso
    have h2 : ((L : Nat) : Int) = (f.ns : Int) := by rw [hL0]; subst hO; simpa [std] using h1
    omega
  refine (show SW _ _ _ _ _ _ from ?_)
  refine SW.seq (SW.runN tok hO 1 (by cbv <;> rfl) (by trivial) ?_)
  refine OpsW.ldI tok (by cbv <;> rfl) hfg2 ?_
  refine OpsW.run tok hO (by cbv <;> rfl) ?_ ?_
  · exact ⟨Int.le_refl _, by show (0 : Int) < (f.ns : Int); omega⟩
  refine (show SW _ _ _ _ _ _ from ?_)
  obtain ⟨N, hN⟩ : ∃ N, (hi - lo + 1).toNat = N := ⟨_, rfl⟩
  rw [hN] at hE hQ0
  have eC : AObj.cells none false [iV (f.slo (O.nat (Int.ofNat 0))), iV (f.shi (O.nat (Int.ofNat 0)))] = AObj.cells none false [iV lo, iV hi] := by rw [hnat, ← hlo, ← hhi, hL0]
  have hlaq : ∀ fm', ∀ x ∈ laO q fm' P, x.1 = q ∧ P ≠ [] ∧ x.2.own = true := fun fm' x hx => by
    obtain ⟨k1, k2⟩ := laO_mem hx
    rw [k2]; exact ⟨rfl, k1, rfl⟩
  have hids : ∀ fm' (H' : Nat → Hp) qm' n', n + 1 ≤ n' → LowM 49 H' → (qm' = 48 ∨ 51 ≤ qm') → qm' < n' → ∀ id o, Hp.get (coH fc y (((n, .cells none false [iV lo, iV hi]) :: (laO q fm' P ++ R)) ++ H' qm')) id = some o → id < n' := fun fm' H' qm' n' h1 h2 h3 h4 id o ho => by
    unfold coH at ho
    rcases List.mem_cons.1 (Hp.mem_of_get ho) with h | h
    · cases h; omega
    rcases List.mem_cons.1 h with h | h
    · cases h; omega
    rcases List.mem_append.1 h with h | h
    · rcases List.mem_cons.1 h with h | h
      · cases h; omega
      rcases List.mem_append.1 h with h | h
      · have := hlaq fm' _ h
        have := hq this.2.1
        simp only at *
        omega
      · have := hown _ h
        simp only at this
        omega
    · simp only [Hp.get] at ho
      by_cases e1 : 50 = id
      · omega
      by_cases e2 : 49 = id
      · omega
      rw [if_neg e1, if_neg e2] at ho
      rcases Hp.app_cases ho with h' | h'
      · rcases List.mem_cons.1 (Hp.mem_of_get h') with h | h
        · cases h; omega
        rcases List.mem_append.1 h with h | h
        · have := hlaq fm' _ h
          have := hq this.2.1
          simp only at *
          omega
        · have := hown _ h
          simp only at this
          omega
      · have := (h2.id qm' id o (by omega) h'.2).1
        omega
  have hchild : ∀ fm' (H' : Nat → Hp) qm' n', n + 1 ≤ n' → LowM 49 H' → (qm' = qm ∨ n + 1 ≤ qm') → qm' < n' → CoI fc n' (L + 1) ((n, .cells none false [iV lo, iV hi]) :: (laO q fm' P ++ R)) H' qm' := fun fm' H' qm' n' h1 h2 h3 h4 => ⟨by omega, Kept.noFam (fun x hx F X hX => by
      rcases List.mem_append.1 hx with hx | hx
      · obtain ⟨k1, k2⟩ := laO_mem hx
        rw [k2]
        exact Kept.cells (L := L + 1) (R := []) (id := q) (by rw [flatG_length, Nat.mul_one]; omega) (fun _ h => nomatch h) (q, _) List.mem_cons_self F X hX
      · exact hkept x hx F X (by omega)), fun x hx => by
      rcases List.mem_cons.1 hx with rfl | hx
      · exact ⟨by show 51 ≤ n; omega, by show n < n'; omega, by show n ≠ qm'; omega, rfl⟩
      rcases List.mem_append.1 hx with hx | hx
      · have k1 := hlaq fm' _ hx
        have k2 := hq k1.2.1
        exact ⟨by omega, by omega, by omega, k1.2.2⟩
      · have k1 := hown x hx
        exact ⟨by omega, by omega, by omega, k1.2.2.2⟩, ⟨by omega, h4⟩, h2⟩
  have hgetr : ∀ fm' (H' : Nat → Hp) qm', Hp.get (coH fc y (((n, .cells none false [iV lo, iV hi]) :: (laO q fm' P ++ R)) ++ H' qm')) n = some (.cells none false [iV lo, iV hi]) := fun fm' H' qm' => by
    rw [coH_get (by omega)]
    show Hp.get ((n, _) :: _) n = _
    simp only [Hp.get]
    rw [if_pos trivial]
  refine SW.sub (h2 := coH fc y (((n, .cells none false [iV lo, iV hi]) :: (laO q fm P ++ R)) ++ H qm)) (by rfl) (fun id o ho => ⟨?_, hids fm H qm (n + 1) (Nat.le_refl _) hlow hqn.1 (by omega) id o ho⟩) ?_
  · by_cases e : id = n
    · rw [e, hgetr] at ho
      rw [e]
      show Hp.get ((n, _) :: _) n = _
      simp only [Hp.get]
      rw [if_pos trivial]
      exact (congrArg some eC).trans ho
    · show Hp.get ((n, _) :: coH fc y AH) id = some o
      simp only [Hp.get]
      rw [if_neg (fun h => e h.symm)]
      refine coH_sub (fun _ _ h => ?_) ho
      rw [← hAH]
      have : Hp.get ((n, AObj.cells none false [iV lo, iV hi]) :: ((laO q fm P ++ R) ++ H qm)) id = some o := h
      simp only [Hp.get] at this
      rw [if_neg (fun h => e h.symm), List.append_assoc] at this
      exact this
  have hlo2 := load_lo (hgetr fm H qm)
  obtain ⟨A1, hA1⟩ : ∃ a, ((n, AObj.cells none false [iV lo, iV hi]) :: (laO q fm P ++ R)) ++ H qm = a := ⟨_, rfl⟩
  rw [hA1] at hlo2 ⊢
  refine SW.seq ?_
  refine SW.seq (SW.runN tok hO 1 (by cbv <;> rfl) (by trivial) ?_)
  refine OpsW.ldI tok (by cbv <;> rfl) hlo2 ?_
  refine OpsW.run tok hO (by cbv <;> rfl) (by trivial) ?_
  rw [← hA1]
  refine (SW.block (SW.loop (fun k f st => ∃ (g : Nat → AV) (c : Nat) (H' : Nat → Hp) (qm' n' : Nat) (fm' : Option Nat), f = ⟨⟨40, g⟩, []⟩ ∧ AllP (fun p => g p.1 = p.2) [(0, nl3), (1, .ptr fc 0), (2, .ptr 49 0), (3, .ptr 50 0), (6, .ptr n 0), (7, iV (lo + (c : Int)))] ∧
      st = ⟨coH fc y (((n, .cells none false [iV lo, iV hi]) :: (laO q fm' P ++ R)) ++ H' qm'), n'⟩ ∧ n + 1 ≤ n' ∧ (qm' = qm ∨ n + 1 ≤ qm') ∧ qm' < n' ∧ K (seen ++ (List.range c).flatMap F) H' ∧ c ≤ N ∧ k = N - c) (N - 0) ?_ ?_))
  · refine ⟨_, 0, H, qm, n + 1, fm, rfl, ⟨rfl, rfl, rfl, rfl, rfl, ?_, trivial⟩, rfl, Nat.le_refl _, .inl rfl, by omega, by simpa using hK, Nat.zero_le _, rfl⟩
    show iV lo = iV (lo + ((0 : Nat) : Int))
    rw [show lo + ((0 : Nat) : Int) = lo by omega]
  · rintro k f0 st ⟨g, c, H', qm', n', fm', rfl, ⟨g0, g1, g2, g3, g6, g7, _⟩, rfl, hn', hqm', hqn', hK', hle, rfl⟩
    simp only at g0 g1 g2 g3 g6 g7
    rw [← updT_self g0, ← updT_self g1, ← updT_self g2, ← updT_self g3, ← updT_self g6, ← updT_self g7]
    obtain ⟨hlow', _⟩ := hid _ _ hK'
    have hqm2 : qm' = 48 ∨ 51 ≤ qm' := by omega
    obtain ⟨v, hv⟩ : ∃ v, lo + (c : Int) = v := ⟨_, rfl⟩
    rw [hv]
    have hhi2 := load_hi (hgetr fm' H' qm')
    obtain ⟨A2, hA2⟩ : ∃ a, ((n, AObj.cells none false [iV lo, iV hi]) :: (laO q fm' P ++ R)) ++ H' qm' = a := ⟨_, rfl⟩
    rw [hA2] at hhi2 ⊢
    refine SW.seq ?_
    refine SW.seq (SW.runN tok hO 2 (by cbv <;> rfl) (by trivial) ?_)
    refine OpsW.ldI tok (by cbv <;> rfl) hhi2 ?_
    refine OpsW.run tok hO (by cbv <;> rfl) (by trivial) ?_
    refine SW.condS (by cbv <;> rfl) (fun h3 => SW.skip ?_) (fun h3 => SW.exit ?_)
    rotate_left
    · have hgt : ¬ v ≤ hi := by subst hO; simpa [std] using h3
      have hc : c = N := by omega
      refine (show SW _ _ _ _ _ _ from ?_)
      rw [← hA2]
      refine SW.sub (h2 := coH fc y (laO q fm' P ++ (R ++ H' qm'))) (by rfl) (fun id o ho => ?_) ?_
      · have h5 : Hp.get (coH fc y (((n, .cells none false [iV lo, iV hi]) :: (laO q fm' P ++ R)) ++ H' qm')) id = some o := by
          refine coH_sub (fun e50 e49 h => ?_) ho
          show Hp.get ((n, AObj.cells none false [iV lo, iV hi]) :: ((laO q fm' P ++ R) ++ H' qm')) id = some o
          have hne : ¬ n = id := fun e => by
            subst e
            rcases Hp.app_cases h with h' | ⟨_, h'⟩
            · have k1 := hlaq fm' _ (Hp.mem_of_get h')
              have k2 := hq k1.2.1
              simp only at k1
              omega
            · rcases Hp.app_cases h' with h' | ⟨_, h'⟩
              · have k1 := hown _ (Hp.mem_of_get h')
                simp only at k1
                omega
              · have := (hlow'.id qm' _ o (by omega) h').1
                omega
          simp only [Hp.get]
          rw [if_neg hne, List.append_assoc]
          exact h
        exact ⟨h5, hids fm' H' qm' n' hn' hlow' hqm2 hqn' id o h5⟩
      have hfin := hQ0 (.lit (.bool true)) H' qm' n' fm' (by omega) (by omega) hqn' hlow' (.inl ⟨rfl, by rw [← hc]; exact hK'⟩)
      obtain ⟨A3, hA3⟩ : ∃ a, laO q fm' P ++ (R ++ H' qm') = a := ⟨_, rfl⟩
      rw [hA3] at hfin ⊢
      unfold coH at hfin ⊢
      refine SW.seqRun tok hO (by cbv <;> rfl) (by trivial) ?_
      exact SW.ret ⟨_, _, rfl, rfl, hfin⟩
    · have hvle : v ≤ hi := by subst hO; simpa [std] using h3
      have hcN : c < N := by omega
      refine (show SW _ _ _ _ _ _ from ?_)
      obtain ⟨r, hr⟩ := range_split (c + 1) N hcN
      have hlenP : (P ++ [v]).length = L + 1 := by rw [List.length_append, List.length_singleton, hL]
      have hFc : chE f.slo f.shi m (P ++ [v]) = F c := by rw [hF, ← hv]
      have hE2 : E = (seen ++ (List.range c).flatMap F) ++ chE f.slo f.shi m (P ++ [v]) ++ (r.flatMap F ++ post) := by
        rw [hE, hr, List.flatMap_append, hsn, hFc]
        simp [List.append_assoc]
      obtain ⟨F1, hF1⟩ : ∃ F1, F1 = fm' := ⟨_, rfl⟩
      have happ := app_co0 (t := 27) (n := n') (h0 := coH fc y A2) (v := v) (ex := true) (by kernel_rfl)
      obtain ⟨h3', hh3⟩ : ∃ h3 : Hp, h3 = (n' + 1, .cells none false [iV v]) :: (n', .cells none false [iV v]) :: coH fc y A2 := ⟨_, rfl⟩
      rw [← hh3] at happ
      have hrec := ih (P ++ [v]) (by rw [hlenP]; omega) (seen ++ (List.range c).flatMap F) _ hE2 (n' + 1 + 1) (n' + 1) none _ H' qm' (by rw [hlenP]; exact hchild F1 H' qm' (n' + 1 + 1) (by omega) hlow' (by omega) (by omega)) (fun _ => ⟨by omega, by omega, by omega⟩) hK'
      rw [laV_snoc, hL, hL0] at hrec
      have hsub : ∀ id o, Hp.get (coH fc y (laO (n' + 1) none (P ++ [v]) ++ (((n, .cells none false [iV lo, iV hi]) :: (laO q F1 P ++ R)) ++ H' qm'))) id = some o → h3'.get id = some o ∧ id < n' + 1 + 1 := fun id o ho => by
        have hv1 : flatG 1 (intC (zL (P ++ [v]))) (P.length + 1) = [iV v] := by rw [hP]; rfl
        rw [laO_snoc, hv1] at ho
        rw [hh3]
        simp only [Hp.get]
        by_cases e : n' + 1 = id
        · rw [if_pos e]
          rw [← e, coH_get (by omega)] at ho
          simp only [List.cons_append, List.nil_append, Hp.get] at ho
          rw [if_pos trivial] at ho
          exact ⟨ho, by omega⟩
        · have h9 : Hp.get (coH fc y (((n, .cells none false [iV lo, iV hi]) :: (laO q F1 P ++ R)) ++ H' qm')) id = some o := by
            refine coH_sub (fun _ _ h => ?_) ho
            simp only [List.cons_append, List.nil_append, Hp.get] at h ⊢
            rw [if_neg e] at h
            exact h
          have hlt := hids F1 H' qm' n' hn' hlow' hqm2 hqn' id o h9
          rw [if_neg e, if_neg (by omega), ← hA2, ← hF1]
          exact ⟨h9, by omega⟩
      have hg50 : h3'.get 50 = some (.cells none false [coV fc]) := (hsub 50 _ (by unfold coH; simp only [Hp.get]; rw [if_pos trivial])).1
      have hrec2 := CallW.sub hsub hrec
      rw [hFc] at hrec2
      refine SW.seq (SW.block ?_)
      unfold coH at happ ⊢
      have hld : loadA Fz.T h3' 119 (.ptr 50 0) = some (coV fc) := by
        have h5 := hg50
        simp only [loadA, ptrOf, cellsAt, h5]
        rfl
      have hld0 : ∀ B : Hp, loadA Fz.T ((n', .cells none false [iV v]) :: (50, .cells none false [.fn (.func 131) [] [.ptr fc 0, .ptr 49 0, .ptr 50 0]]) :: B) 119 (.ptr 50 0) = some (.fn (.func 131) [] [.ptr fc 0, .ptr 49 0, .ptr 50 0]) := fun B => by
        have h5 : Hp.get ((n', .cells none false [iV v]) :: (50, .cells none false [.fn (.func 131) [] [.ptr fc 0, .ptr 49 0, .ptr 50 0]]) :: B) 50 = some (.cells none false [.fn (.func 131) [] [.ptr fc 0, .ptr 49 0, .ptr 50 0]]) := by
          simp only [Hp.get]
          rw [if_neg (by omega), if_pos trivial]
        simp only [loadA, ptrOf, cellsAt, h5]
        rfl
      refine SW.seqRunD tok mixed hO (by kernel_rfl) (by cbv <;> rfl) (by trivial) ?_
      refine AnyE.effK tok hO (by cbv <;> rfl) (by cbv <;> rfl) (by trivial) ?_ ?_
      · exact (by repeat (first | exact trivial | refine And.intro (by first | exact LV.of (hld0 _) | exact hld0 _ | exact lv_of hO (by cbv <;> rfl) (by trivial) | (cbv <;> rfl)) ?_))
      refine AnyE.run tok hO (by kernel_rfl) (by cbv <;> rfl) (by trivial) ?_
      refine AnyE.appK tok (by cbv <;> rfl) (by cbv <;> rfl) happ ?_ ?_
      · exact (by repeat (first | exact trivial | refine And.intro (by first | exact hld | exact lv_of hO (by cbv <;> rfl) (by trivial) | (cbv <;> rfl)) ?_))
      refine AnyE.run tok hO (by kernel_rfl) (by cbv <;> rfl) (by trivial) ?_
      refine AnyE.apply (c := coV fc) (args := [.sl (n' + 1) 0 1 1 false]) (by cbv <;> rfl) (by cbv <;> rfl) (show ApplyW Try.prog (coV fc) _ _ _ from ⟨en131, hrec2⟩) fun w st' hk => ?_
      obtain ⟨H2, qm2, n2, fm2, k1, k2, k3, k4, rfl, k5⟩ := hk
      have hne : ∀ id o, Hp.get (coH fc y (((n, .cells none false [iV lo, iV hi]) :: (laO q F1 P ++ R)) ++ H2 qm2)) id = some o → Hp.get (coH fc y (laO (n' + 1) fm2 (P ++ [v]) ++ (((n, .cells none false [iV lo, iV hi]) :: (laO q F1 P ++ R)) ++ H2 qm2))) id = some o ∧ id < n2 := fun id o ho => by
        have hlt := hids F1 H2 qm2 n2 (by omega) k4 (by omega) k3 id o ho
        refine ⟨coH_sub (fun e1 e2 h => ?_) ho, hlt⟩
        rw [laO_snoc]
        show Hp.get ((n' + 1, _) :: _) id = some o
        have hid1 : ¬ n' + 1 = id := fun e => by
          rcases Hp.app_cases h with h' | ⟨_, h'⟩
          · rcases List.mem_cons.1 (Hp.mem_of_get h') with h6 | h6
            · cases h6; omega
            rcases List.mem_append.1 h6 with h6 | h6
            · have m1 := hlaq F1 _ h6
              have m2 := hq m1.2.1
              simp only at m1
              omega
            · have m1 := hown _ h6
              simp only at m1
              omega
          · have := (k4.id qm2 _ o (by omega) h').1
            omega
        simp only [Hp.get]
        rw [if_neg hid1]
        exact h
      have hne2 : ∀ id o, Hp.get (coH fc y (laO q F1 P ++ (R ++ H2 qm2))) id = some o → Hp.get (coH fc y (((n, .cells none false [iV lo, iV hi]) :: (laO q F1 P ++ R)) ++ H2 qm2)) id = some o := fun id o ho => by
        refine coH_sub (fun e50 e49 h => ?_) ho
        show Hp.get ((n, AObj.cells none false [iV lo, iV hi]) :: ((laO q F1 P ++ R) ++ H2 qm2)) id = some o
        have hne : ¬ n = id := fun e => by
          subst e
          rcases Hp.app_cases h with h' | ⟨_, h'⟩
          · have m1 := hlaq F1 _ (Hp.mem_of_get h')
            have m2 := hq m1.2.1
            simp only at m1
            omega
          · rcases Hp.app_cases h' with h' | ⟨_, h'⟩
            · have m1 := hown _ (Hp.mem_of_get h')
              simp only at m1
              omega
            · have := (k4.id qm2 _ o (by omega) h').1
              omega
        simp only [Hp.get]
        rw [if_neg hne, List.append_assoc]
        exact h
      have hQf := hQ0 (.lit (.bool false)) H2 qm2 n2 F1 (by omega) (by omega) k3 k4
      obtain ⟨S4, hS4⟩ : ∃ s, coH fc y (laO (n' + 1) fm2 (P ++ [v]) ++ (((n, .cells none false [iV lo, iV hi]) :: (laO q F1 P ++ R)) ++ H2 qm2)) = s := ⟨_, rfl⟩
      rw [hS4] at hne ⊢
      rcases k5 with ⟨rfl, k5⟩ | ⟨rfl, pre, l, post2, k5, k6⟩
      · refine AnyE.run tok hO (by kernel_rfl) (by cbv <;> rfl) (by trivial) ?_
        refine SW.condS (by cbv <;> rfl) (fun h7 => absurd h7 (by decide)) (fun _ => SW.skip ?_)
        refine SW.sub (by rfl) hne ?_
        obtain ⟨A3, hA3⟩ : ∃ a, ((n, AObj.cells none false [iV lo, iV hi]) :: (laO q F1 P ++ R)) ++ H2 qm2 = a := ⟨_, rfl⟩
        rw [hA3]
        refine (show SW _ _ _ _ _ _ from ?_)
        refine SW.run tok hO (by cbv <;> rfl) (by trivial) ?_
        have hinc : O.bin .add .i64 v 1 = lo + ((c + 1 : Nat) : Int) := by
          subst hO
          show add64 v 1 = _
          rw [add64_in _ _ (by omega) (by omega)]; omega
        refine ⟨N - (c + 1), by omega, _, c + 1, H2, qm2, n2, F1, rfl, ⟨rfl, rfl, rfl, rfl, rfl, congrArg (fun z => AV.lit (.int .i64 z)) hinc, trivial⟩, by rw [hA3]; rfl, by omega, by omega, k3, ?_, by omega, rfl⟩
        rw [hsn, ← List.append_assoc]; exact k5
      · refine AnyE.run tok hO (by kernel_rfl) (by cbv <;> rfl) (by trivial) ?_
        refine SW.condS (by cbv <;> rfl) (fun _ => ?_) (fun h7 => absurd h7 (by decide))
        refine SW.sub (h2 := coH fc y (laO q F1 P ++ (R ++ H2 qm2))) (by rfl) (fun id o ho => hne id o (hne2 id o ho)) ?_
        have hfin := hQf (.inr ⟨rfl, (List.range c).flatMap F ++ pre, l, post2 ++ r.flatMap F, by
          rw [hr, List.flatMap_append, hsn, k5]
          simp only [List.append_assoc, List.cons_append], by rw [← List.append_assoc]; exact k6⟩)
        obtain ⟨A3, hA3⟩ : ∃ a, laO q F1 P ++ (R ++ H2 qm2) = a := ⟨_, rfl⟩
        rw [hA3] at hfin ⊢
        unfold coH at hfin ⊢
        refine SW.seqRun tok hO (by cbv <;> rfl) (by trivial) ?_
        exact SW.ret ⟨_, _, rfl, rfl, hfin⟩
set_option maxHeartbeats 16000000 in
theorem co_step1 (hfc : fc < 49) (hfc2 : fc ≠ 48) (hy : y < 49) (hy2 : y ≠ 48) (hid : coK f K fc) (hg : ∀ i, i < f.ns → 0 ≤ f.slo i ∧ f.shi i ≤ 30) (hsm : f.ns < 900) (m : Nat)
    (ih : ∀ (p : List Int), p.length + m = f.ns → ∀ (seen post : List (List Int)), E = seen ++ chE f.slo f.shi m p ++ post → ∀ (n q : Nat) (fm : Option Nat) (R : Hp) (H : Nat → Hp) (qm : Nat), CoI fc n p.length R H qm → (p ≠ [] → 51 ≤ q ∧ q < n ∧ q ≠ qm) → K seen H →
      CallW Try.prog 131 [laV q p, .ptr fc 0, .ptr 49 0, .ptr 50 0] ⟨coH fc y (laO q fm p ++ (R ++ H qm)), n⟩ (coQ K stop fc y n q qm R p seen (chE f.slo f.shi m p)))
    (v0 : Int) (p : List Int) (hp : (v0 :: p).length + (m + 1) = f.ns) (seen post : List (List Int)) (hE : E = seen ++ chE f.slo f.shi (m + 1) (v0 :: p) ++ post) (n q : Nat) (fm : Option Nat) (R : Hp) (H : Nat → Hp) (qm : Nat)
    (hI : CoI fc n (v0 :: p).length R H qm) (hq : v0 :: p ≠ [] → 51 ≤ q ∧ q < n ∧ q ≠ qm) (hK : K seen H) :
    CallW Try.prog 131 [laV q (v0 :: p), .ptr fc 0, .ptr 49 0, .ptr 50 0] ⟨coH fc y (laO q fm (v0 :: p) ++ (R ++ H qm)), n⟩ (coQ K stop fc y n q qm R (v0 :: p) seen (chE f.slo f.shi (m + 1) (v0 :: p))) := by
  obtain ⟨O, hO⟩ : ∃ O : Ar, O = std := ⟨_, rfl⟩
  have hnat : ∀ i : Nat, O.nat (Int.ofNat i) = i := fun i => by subst hO; rfl
  obtain ⟨hlow, hfar⟩ := hid _ _ hK
  obtain ⟨fm0, ro0, hfg⟩ := hfar qm (by have := hI.qm; omega)
  have hqq : v0 :: p ≠ [] → 51 ≤ q := fun h => (hq h).1
  have hfg2 := load_springs ((co_low (y := y) (fm := fm) hI hqq hfc).trans hfg)
  obtain ⟨P, hP⟩ : ∃ P : List Int, P = v0 :: p := ⟨_, rfl⟩
  obtain ⟨L, hL⟩ : ∃ L, P.length = L := ⟨_, rfl⟩
  rw [← hP] at hp hE hI hq hqq hfg2 ⊢
  have hLns : L < f.ns := by omega
  have hgL := hg L hLns
  obtain ⟨F, hF⟩ : ∃ F : Nat → List (List Int), F = fun (c : Nat) => chE f.slo f.shi m (P ++ [f.slo L + (c : Int)]) := ⟨_, rfl⟩
  have hEE : chE f.slo f.shi (m + 1) P = (List.range (f.shi L - f.slo L + 1).toNat).flatMap F := by rw [hF, ← hL]; rfl
  rw [hEE] at hE ⊢
  have hsn : ∀ c, (List.range (c + 1)).flatMap F = (List.range c).flatMap F ++ F c := fun c => by rw [List.range_succ, List.flatMap_append]; simp
  have hin := hI.lo
  obtain ⟨QQ, hQQ⟩ : ∃ r, coQ K stop fc y n q qm R P seen ((List.range (f.shi L - f.slo L + 1).toNat).flatMap F) = r := ⟨_, rfl⟩
  have hQ0 : ∀ v H' qm' n' fm', n ≤ n' → (qm' = qm ∨ n ≤ qm') → qm' < n' → LowM 49 H' → ((v = .lit (.bool true) ∧ K (seen ++ (List.range (f.shi L - f.slo L + 1).toNat).flatMap F) H') ∨ (v = .lit (.bool false) ∧ ∃ pre l post, (List.range (f.shi L - f.slo L + 1).toNat).flatMap F = pre ++ l :: post ∧ stop (seen ++ pre) l H')) → QQ v ⟨coH fc y (laO q fm' P ++ (R ++ H' qm')), n'⟩ := fun v H' qm' n' fm' h1 h2 h3 h4 h5 => by rw [← hQQ]; exact ⟨H', qm', n', fm', h1, h2, h3, h4, rfl, h5⟩
  rw [hQQ]
  clear hQQ
  have hown := fun x hx => hI.own x hx
  have hkept := hI.kept
  have hqn := hI.qm
  obtain ⟨AH, hAH⟩ : ∃ a, laO q fm P ++ (R ++ H qm) = a := ⟨_, rfl⟩
  rw [hAH] at hfg2 ⊢
  obtain ⟨lo, hlo⟩ : ∃ v, f.slo L = v := ⟨_, rfl⟩
  obtain ⟨hi, hhi⟩ : ∃ v, f.shi L = v := ⟨_, rfl⟩
  rw [hlo, hhi] at hgL hEE hE hQ0
  rw [hlo] at hF
  have hX : laV q P = .sl q 0 L 1 false := by rw [← hL, hP]; rfl
  rw [hX]
  unfold coH
  refine callW_of_body tok Try.func131 rfl ?_
  refine SW.seqRun tok hO (by cbv <;> rfl) (by trivial) ?_
  refine SW.seq ?_
  refine SW.seq (SW.runN tok hO 3 (by cbv <;> rfl) (by trivial) ?_)
  refine OpsW.ldI tok (by cbv <;> rfl) hfg2 ?_
  refine OpsW.run tok hO (by cbv <;> rfl) (by trivial) ?_
  refine SW.condS (by cbv <;> rfl) (fun h1 => ?_) (fun h1 => SW.skip ?_)
  · exfalso
    have h2 : ((L : Nat) : Int) = (f.ns : Int) := by subst hO; simpa [std] using h1
    omega
  refine (show SW _ _ _ _ _ _ from ?_)
  refine SW.seq (SW.runN tok hO 1 (by cbv <;> rfl) (by trivial) ?_)
  refine OpsW.ldI tok (by cbv <;> rfl) hfg2 ?_
  refine OpsW.run tok hO (by cbv <;> rfl) ?_ ?_
  · exact ⟨Int.natCast_nonneg L, Int.ofNat_lt.2 hLns⟩
  refine (show SW _ _ _ _ _ _ from ?_)
  obtain ⟨N, hN⟩ : ∃ N, (hi - lo + 1).toNat = N := ⟨_, rfl⟩
  rw [hN] at hE hQ0
  have eC : AObj.cells none false [iV (f.slo (O.nat (Int.ofNat L))), iV (f.shi (O.nat (Int.ofNat L)))] = AObj.cells none false [iV lo, iV hi] := by rw [hnat, hlo, hhi]
  have hlaq : ∀ fm', ∀ x ∈ laO q fm' P, x.1 = q ∧ P ≠ [] ∧ x.2.own = true := fun fm' x hx => by
    obtain ⟨k1, k2⟩ := laO_mem hx
    rw [k2]; exact ⟨rfl, k1, rfl⟩
  have hids : ∀ fm' (H' : Nat → Hp) qm' n', n + 1 ≤ n' → LowM 49 H' → (qm' = 48 ∨ 51 ≤ qm') → qm' < n' → ∀ id o, Hp.get (coH fc y (((n, .cells none false [iV lo, iV hi]) :: (laO q fm' P ++ R)) ++ H' qm')) id = some o → id < n' := fun fm' H' qm' n' h1 h2 h3 h4 id o ho => by
    unfold coH at ho
    rcases List.mem_cons.1 (Hp.mem_of_get ho) with h | h
    · cases h; omega
    rcases List.mem_cons.1 h with h | h
    · cases h; omega
    rcases List.mem_append.1 h with h | h
    · rcases List.mem_cons.1 h with h | h
      · cases h; omega
      rcases List.mem_append.1 h with h | h
      · have := hlaq fm' _ h
        have := hq this.2.1
        simp only at *
        omega
      · have := hown _ h
        simp only at this
        omega
    · simp only [Hp.get] at ho
      by_cases e1 : 50 = id
      · omega
      by_cases e2 : 49 = id
      · omega
      rw [if_neg e1, if_neg e2] at ho
      rcases Hp.app_cases ho with h' | h'
      · rcases List.mem_cons.1 (Hp.mem_of_get h') with h | h
        · cases h; omega
        rcases List.mem_append.1 h with h | h
        · have := hlaq fm' _ h
          have := hq this.2.1
          simp only at *
          omega
        · have := hown _ h
          simp only at this
          omega
      · have := (h2.id qm' id o (by omega) h'.2).1
        omega
  have hchild : ∀ fm' (H' : Nat → Hp) qm' n', n + 1 ≤ n' → LowM 49 H' → (qm' = qm ∨ n + 1 ≤ qm') → qm' < n' → CoI fc n' (L + 1) ((n, .cells none false [iV lo, iV hi]) :: (laO q fm' P ++ R)) H' qm' := fun fm' H' qm' n' h1 h2 h3 h4 => ⟨by omega, Kept.noFam (fun x hx F X hX => by
      rcases List.mem_append.1 hx with hx | hx
      · obtain ⟨k1, k2⟩ := laO_mem hx
        rw [k2]
        exact Kept.cells (L := L + 1) (R := []) (id := q) (by rw [flatG_length, Nat.mul_one]; omega) (fun _ h => nomatch h) (q, _) List.mem_cons_self F X hX
      · exact hkept x hx F X (by omega)), fun x hx => by
      rcases List.mem_cons.1 hx with rfl | hx
      · exact ⟨by show 51 ≤ n; omega, by show n < n'; omega, by show n ≠ qm'; omega, rfl⟩
      rcases List.mem_append.1 hx with hx | hx
      · have k1 := hlaq fm' _ hx
        have k2 := hq k1.2.1
        exact ⟨by omega, by omega, by omega, k1.2.2⟩
      · have k1 := hown x hx
        exact ⟨by omega, by omega, by omega, k1.2.2.2⟩, ⟨by omega, h4⟩, h2⟩
  have hgetr : ∀ fm' (H' : Nat → Hp) qm', Hp.get (coH fc y (((n, .cells none false [iV lo, iV hi]) :: (laO q fm' P ++ R)) ++ H' qm')) n = some (.cells none false [iV lo, iV hi]) := fun fm' H' qm' => by
    rw [coH_get (by omega)]
    show Hp.get ((n, _) :: _) n = _
    simp only [Hp.get]
    rw [if_pos trivial]
  refine SW.sub (h2 := coH fc y (((n, .cells none false [iV lo, iV hi]) :: (laO q fm P ++ R)) ++ H qm)) (by rfl) (fun id o ho => ⟨?_, hids fm H qm (n + 1) (Nat.le_refl _) hlow hqn.1 (by omega) id o ho⟩) ?_
  · by_cases e : id = n
    · rw [e, hgetr] at ho
      rw [e]
      show Hp.get ((n, _) :: _) n = _
      simp only [Hp.get]
      rw [if_pos trivial]
      exact (congrArg some eC).trans ho
    · show Hp.get ((n, _) :: coH fc y AH) id = some o
      simp only [Hp.get]
      rw [if_neg (fun h => e h.symm)]
      refine coH_sub (fun _ _ h => ?_) ho
      rw [← hAH]
      have : Hp.get ((n, AObj.cells none false [iV lo, iV hi]) :: ((laO q fm P ++ R) ++ H qm)) id = some o := h
      simp only [Hp.get] at this
      rw [if_neg (fun h => e h.symm), List.append_assoc] at this
      exact this
  have hlo2 := load_lo (hgetr fm H qm)
  obtain ⟨A1, hA1⟩ : ∃ a, ((n, AObj.cells none false [iV lo, iV hi]) :: (laO q fm P ++ R)) ++ H qm = a := ⟨_, rfl⟩
  rw [hA1] at hlo2 ⊢
  refine SW.seq ?_
  refine SW.seq (SW.runN tok hO 1 (by cbv <;> rfl) (by trivial) ?_)
  refine OpsW.ldI tok (by cbv <;> rfl) hlo2 ?_
  refine OpsW.run tok hO (by cbv <;> rfl) (by trivial) ?_
  rw [← hA1]
  refine (SW.block (SW.loop (fun k f st => ∃ (g : Nat → AV) (c : Nat) (H' : Nat → Hp) (qm' n' : Nat) (fm' : Option Nat), f = ⟨⟨40, g⟩, []⟩ ∧ AllP (fun p => g p.1 = p.2) [(0, .sl q 0 L 1 false), (1, .ptr fc 0), (2, .ptr 49 0), (3, .ptr 50 0), (6, .ptr n 0), (7, iV (lo + (c : Int)))] ∧
      st = ⟨coH fc y (((n, .cells none false [iV lo, iV hi]) :: (laO q fm' P ++ R)) ++ H' qm'), n'⟩ ∧ n + 1 ≤ n' ∧ (qm' = qm ∨ n + 1 ≤ qm') ∧ qm' < n' ∧ K (seen ++ (List.range c).flatMap F) H' ∧ c ≤ N ∧ k = N - c) (N - 0) ?_ ?_))
  · refine ⟨_, 0, H, qm, n + 1, fm, rfl, ⟨rfl, rfl, rfl, rfl, rfl, ?_, trivial⟩, rfl, Nat.le_refl _, .inl rfl, by omega, by simpa using hK, Nat.zero_le _, rfl⟩
    show iV lo = iV (lo + ((0 : Nat) : Int))
    rw [show lo + ((0 : Nat) : Int) = lo by omega]
  · rintro k f0 st ⟨g, c, H', qm', n', fm', rfl, ⟨g0, g1, g2, g3, g6, g7, _⟩, rfl, hn', hqm', hqn', hK', hle, rfl⟩
    simp only at g0 g1 g2 g3 g6 g7
    rw [← updT_self g0, ← updT_self g1, ← updT_self g2, ← updT_self g3, ← updT_self g6, ← updT_self g7]
    obtain ⟨hlow', _⟩ := hid _ _ hK'
    have hqm2 : qm' = 48 ∨ 51 ≤ qm' := by omega
    obtain ⟨v, hv⟩ : ∃ v, lo + (c : Int) = v := ⟨_, rfl⟩
    rw [hv]
    have hhi2 := load_hi (hgetr fm' H' qm')
    obtain ⟨A2, hA2⟩ : ∃ a, ((n, AObj.cells none false [iV lo, iV hi]) :: (laO q fm' P ++ R)) ++ H' qm' = a := ⟨_, rfl⟩
    rw [hA2] at hhi2 ⊢
    refine SW.seq ?_
    refine SW.seq (SW.runN tok hO 2 (by cbv <;> rfl) (by trivial) ?_)
    refine OpsW.ldI tok (by cbv <;> rfl) hhi2 ?_
    refine OpsW.run tok hO (by cbv <;> rfl) (by trivial) ?_
    refine SW.condS (by cbv <;> rfl) (fun h3 => SW.skip ?_) (fun h3 => SW.exit ?_)
    rotate_left
    · have hgt : ¬ v ≤ hi := by subst hO; simpa [std] using h3
      have hc : c = N := by omega
      refine (show SW _ _ _ _ _ _ from ?_)
      rw [← hA2]
      refine SW.sub (h2 := coH fc y (laO q fm' P ++ (R ++ H' qm'))) (by rfl) (fun id o ho => ?_) ?_
      · have h5 : Hp.get (coH fc y (((n, .cells none false [iV lo, iV hi]) :: (laO q fm' P ++ R)) ++ H' qm')) id = some o := by
          refine coH_sub (fun e50 e49 h => ?_) ho
          show Hp.get ((n, AObj.cells none false [iV lo, iV hi]) :: ((laO q fm' P ++ R) ++ H' qm')) id = some o
          have hne : ¬ n = id := fun e => by
            subst e
            rcases Hp.app_cases h with h' | ⟨_, h'⟩
            · have k1 := hlaq fm' _ (Hp.mem_of_get h')
              have k2 := hq k1.2.1
              simp only at k1
              omega
            · rcases Hp.app_cases h' with h' | ⟨_, h'⟩
              · have k1 := hown _ (Hp.mem_of_get h')
                simp only at k1
                omega
              · have := (hlow'.id qm' _ o (by omega) h').1
                omega
          simp only [Hp.get]
          rw [if_neg hne, List.append_assoc]
          exact h
        exact ⟨h5, hids fm' H' qm' n' hn' hlow' hqm2 hqn' id o h5⟩
      have hfin := hQ0 (.lit (.bool true)) H' qm' n' fm' (by omega) (by omega) hqn' hlow' (.inl ⟨rfl, by rw [← hc]; exact hK'⟩)
      obtain ⟨A3, hA3⟩ : ∃ a, laO q fm' P ++ (R ++ H' qm') = a := ⟨_, rfl⟩
      rw [hA3] at hfin ⊢
      unfold coH at hfin ⊢
      refine SW.seqRun tok hO (by cbv <;> rfl) (by trivial) ?_
      exact SW.ret ⟨_, _, rfl, rfl, hfin⟩
    · have hvle : v ≤ hi := by subst hO; simpa [std] using h3
      have hcN : c < N := by omega
      refine (show SW _ _ _ _ _ _ from ?_)
      obtain ⟨r, hr⟩ := range_split (c + 1) N hcN
      have hlenP : (P ++ [v]).length = L + 1 := by rw [List.length_append, List.length_singleton, hL]
      have hFc : chE f.slo f.shi m (P ++ [v]) = F c := by rw [hF, ← hv]
      have hE2 : E = (seen ++ (List.range c).flatMap F) ++ chE f.slo f.shi m (P ++ [v]) ++ (r.flatMap F ++ post) := by
        rw [hE, hr, List.flatMap_append, hsn, hFc]
        simp [List.append_assoc]
      have hgq : Hp.get (coH fc y A2) q = some (.cells fm' false (flatG 1 (intC (zL P)) L)) := by
        have k2 := hq (by rw [hP]; simp)
        rw [coH_get (by omega), ← hA2]
        show Hp.get ((n, AObj.cells none false [iV lo, iV hi]) :: ((laO q fm' P ++ R) ++ H' qm')) q = _
        simp only [Hp.get]
        rw [if_neg (by omega), hP]
        show Hp.get ((q, AObj.cells fm' false (flatG 1 (intC (zL (v0 :: p))) (p.length + 1))) :: (R ++ H' qm')) q = _
        simp only [Hp.get]
        rw [if_pos trivial]
        rw [← hL, hP]; rfl
      have hq3 := hq (by rw [hP]; simp)
      have hgq2 : ∀ fm'', Hp.get (coH fc y (((n, .cells none false [iV lo, iV hi]) :: (laO q fm'' P ++ R)) ++ H' qm')) q = some (.cells fm'' false (flatG 1 (intC (zL P)) L)) := fun fm'' => by
        rw [coH_get (by omega)]
        show Hp.get ((n, AObj.cells none false [iV lo, iV hi]) :: ((laO q fm'' P ++ R) ++ H' qm')) q = _
        simp only [Hp.get]
        rw [if_neg (by omega), hP]
        show Hp.get ((q, AObj.cells fm'' false (flatG 1 (intC (zL (v0 :: p))) (p.length + 1))) :: (R ++ H' qm')) q = _
        simp only [Hp.get]
        rw [if_pos trivial]
        rw [← hL, hP]; rfl
      have hoth : ∀ fa fb id, id ≠ q → Hp.get (coH fc y (((n, .cells none false [iV lo, iV hi]) :: (laO q fa P ++ R)) ++ H' qm')) id = Hp.get (coH fc y (((n, .cells none false [iV lo, iV hi]) :: (laO q fb P ++ R)) ++ H' qm')) id := fun fa fb id hne => by
        rw [hP]
        show Hp.get ((50, _) :: (49, _) :: (n, _) :: (q, AObj.cells fa false (flatG 1 (intC (zL (v0 :: p))) (p.length + 1))) :: (R ++ H' qm')) id = Hp.get ((50, _) :: (49, _) :: (n, _) :: (q, AObj.cells fb false (flatG 1 (intC (zL (v0 :: p))) (p.length + 1))) :: (R ++ H' qm')) id
        simp only [Hp.get]
        rw [if_neg (Ne.symm hne), if_neg (Ne.symm hne)]
      obtain ⟨h3', happ, hsub0⟩ := app_co (t := 27) (q := q) (n := n') (L := L) (fm := fm') (fl := zL P) (h0 := coH fc y A2) (v := v) (ex := true) (by kernel_rfl) hgq (by omega) (by omega) (coH fc y (((n, .cells none false [iV lo, iV hi]) :: (laO q (some (fm'.getD q)) P ++ R)) ++ H' qm')) (fun id o ho => by
        refine ⟨hids _ H' qm' n' hn' hlow' hqm2 hqn' id o ho, ?_⟩
        by_cases e : id = q
        · rw [e, hgq2] at ho
          rw [e]
          refine ⟨_, hgq, ?_⟩
          cases ho
          show (if fm' = some (fm'.getD q) ∨ (q == q) = true then AObj.cells (some (fm'.getD q)) false ((flatG 1 (intC (zL P)) L).take L) else _) = _
          rw [if_pos (.inr (by simp)), List.take_of_length_le (by rw [flatG_length, Nat.mul_one]; exact Nat.le_refl _)]
        · refine ⟨o, ?_, ?_⟩
          · rw [← hA2, ← hoth (some (fm'.getD q)) fm' id e]; exact ho
          · rw [show (id == q) = false from beq_eq_false_iff_ne.2 e]
            have hk : Kept L (coH fc y (((n, .cells none false [iV lo, iV hi]) :: R) ++ [])) := by
              unfold coH
              refine Kept.noFam (Kept.noFam ?_)
              rw [List.append_nil]
              exact Kept.noFam (by rw [← hL]; exact hkept)
            rw [hP] at ho
            have ho2 : Hp.get ((50, _) :: (49, _) :: (n, _) :: (q, AObj.cells (some (fm'.getD q)) false (flatG 1 (intC (zL (v0 :: p))) (p.length + 1))) :: (R ++ H' qm')) id = some o := ho
            rcases List.mem_cons.1 (Hp.mem_of_get ho2) with h | h
            · cases h; exact hk _ List.mem_cons_self _ _ (Nat.le_refl _)
            rcases List.mem_cons.1 h with h | h
            · cases h; exact hk _ (List.mem_cons_of_mem _ List.mem_cons_self) _ _ (Nat.le_refl _)
            rcases List.mem_cons.1 h with h | h
            · cases h; exact hk (n, _) (List.mem_cons_of_mem _ (List.mem_cons_of_mem _ List.mem_cons_self)) _ _ (Nat.le_refl _)
            rcases List.mem_cons.1 h with h | h
            · cases h; exact absurd rfl e
            simp only [Hp.get] at ho2
            by_cases e1 : 50 = id
            · rw [if_pos e1] at ho2; cases ho2; exact hk (50, _) List.mem_cons_self _ _ (Nat.le_refl _)
            by_cases e2 : 49 = id
            · rw [if_neg e1, if_pos e2] at ho2; cases ho2; exact hk (49, _) (List.mem_cons_of_mem _ List.mem_cons_self) _ _ (Nat.le_refl _)
            by_cases e3 : n = id
            · rw [if_neg e1, if_neg e2, if_pos e3] at ho2; cases ho2; exact hk (n, _) (List.mem_cons_of_mem _ (List.mem_cons_of_mem _ List.mem_cons_self)) _ _ (Nat.le_refl _)
            rw [if_neg e1, if_neg e2, if_neg e3, if_neg (fun h => e h.symm)] at ho2
            rcases Hp.app_cases ho2 with h' | ⟨_, h'⟩
            · exact hkept _ (Hp.mem_of_get h') _ _ (by omega)
            · have h6 := (hlow'.id qm' id o (by omega) h').2.1
              cases o with
              | cells f1 ro cs =>
                obtain rfl : f1 = none := h6
                show (if none = some (fm'.getD q) ∨ false = true then AObj.cells (some (fm'.getD q)) ro (cs.take L) else AObj.cells none ro cs) = _
                rw [if_neg (by simp)]
              | loop r => rfl
              | dfr => rfl
              | map es clock => rfl
              | iter mid since seen last => rfl)
      obtain ⟨F1, hF1⟩ : ∃ F1, some (fm'.getD q) = F1 := ⟨_, rfl⟩
      rw [hF1] at hsub0
      have hrec := ih (P ++ [v]) (by rw [hlenP]; omega) (seen ++ (List.range c).flatMap F) _ hE2 (n' + 1 + 1) (n' + 1) F1 _ H' qm' (by rw [hlenP]; exact hchild F1 H' qm' (n' + 1 + 1) (by omega) hlow' (by omega) (by omega)) (fun _ => ⟨by omega, by omega, by omega⟩) hK'
      rw [laV_snoc, hL] at hrec
      have hsub : ∀ id o, Hp.get (coH fc y (laO (n' + 1) F1 (P ++ [v]) ++ (((n, .cells none false [iV lo, iV hi]) :: (laO q F1 P ++ R)) ++ H' qm'))) id = some o → h3'.get id = some o ∧ id < n' + 1 + 1 := fun id o ho => by
        refine hsub0 id o ?_
        rw [laO_snoc, ← zL_snoc, hL] at ho
        simp only [Hp.get]
        by_cases e : n' + 1 = id
        · rw [if_pos e]
          rw [← e, coH_get (by omega)] at ho
          simp only [List.cons_append, List.nil_append, Hp.get] at ho
          rw [if_pos trivial] at ho
          exact ho
        · rw [if_neg e]
          refine coH_sub (fun _ _ h => ?_) ho
          simp only [List.cons_append, List.nil_append, Hp.get] at h ⊢
          rw [if_neg e] at h
          exact h
      have hg50 : h3'.get 50 = some (.cells none false [coV fc]) := (hsub 50 _ (by unfold coH; simp only [Hp.get]; rw [if_pos trivial])).1
      have hrec2 := CallW.sub hsub hrec
      rw [hFc] at hrec2
      refine SW.seq (SW.block ?_)
      unfold coH at happ ⊢
      have hld : loadA Fz.T h3' 119 (.ptr 50 0) = some (coV fc) := by
        have h5 := hg50
        simp only [loadA, ptrOf, cellsAt, h5]
        rfl
      have hld0 : ∀ B : Hp, loadA Fz.T ((n', .cells none false [iV v]) :: (50, .cells none false [.fn (.func 131) [] [.ptr fc 0, .ptr 49 0, .ptr 50 0]]) :: B) 119 (.ptr 50 0) = some (.fn (.func 131) [] [.ptr fc 0, .ptr 49 0, .ptr 50 0]) := fun B => by
        have h5 : Hp.get ((n', .cells none false [iV v]) :: (50, .cells none false [.fn (.func 131) [] [.ptr fc 0, .ptr 49 0, .ptr 50 0]]) :: B) 50 = some (.cells none false [.fn (.func 131) [] [.ptr fc 0, .ptr 49 0, .ptr 50 0]]) := by
          simp only [Hp.get]
          rw [if_neg (by omega), if_pos trivial]
        simp only [loadA, ptrOf, cellsAt, h5]
        rfl
      refine SW.seqRunD tok mixed hO (by kernel_rfl) (by cbv <;> rfl) (by trivial) ?_
      refine AnyE.effK tok hO (by cbv <;> rfl) (by cbv <;> rfl) (by trivial) ?_ ?_
      · exact (by repeat (first | exact trivial | refine And.intro (by first | exact LV.of (hld0 _) | exact hld0 _ | exact lv_of hO (by cbv <;> rfl) (by trivial) | (cbv <;> rfl)) ?_))
      refine AnyE.run tok hO (by kernel_rfl) (by cbv <;> rfl) (by trivial) ?_
      refine AnyE.appK tok (by cbv <;> rfl) (by cbv <;> rfl) happ ?_ ?_
      · exact (by repeat (first | exact trivial | refine And.intro (by first | exact hld | exact lv_of hO (by cbv <;> rfl) (by trivial) | (cbv <;> rfl)) ?_))
      refine AnyE.run tok hO (by kernel_rfl) (by cbv <;> rfl) (by trivial) ?_
      refine AnyE.apply (c := coV fc) (args := [.sl (n' + 1) 0 (L + 1) 1 false]) (by cbv <;> rfl) (by cbv <;> rfl) (show ApplyW Try.prog (coV fc) _ _ _ from ⟨en131, hrec2⟩) fun w st' hk => ?_
      obtain ⟨H2, qm2, n2, fm2, k1, k2, k3, k4, rfl, k5⟩ := hk
      have hne : ∀ id o, Hp.get (coH fc y (((n, .cells none false [iV lo, iV hi]) :: (laO q F1 P ++ R)) ++ H2 qm2)) id = some o → Hp.get (coH fc y (laO (n' + 1) fm2 (P ++ [v]) ++ (((n, .cells none false [iV lo, iV hi]) :: (laO q F1 P ++ R)) ++ H2 qm2))) id = some o ∧ id < n2 := fun id o ho => by
        have hlt := hids F1 H2 qm2 n2 (by omega) k4 (by omega) k3 id o ho
        refine ⟨coH_sub (fun e1 e2 h => ?_) ho, hlt⟩
        rw [laO_snoc]
        show Hp.get ((n' + 1, _) :: _) id = some o
        have hid1 : ¬ n' + 1 = id := fun e => by
          rcases Hp.app_cases h with h' | ⟨_, h'⟩
          · rcases List.mem_cons.1 (Hp.mem_of_get h') with h6 | h6
            · cases h6; omega
            rcases List.mem_append.1 h6 with h6 | h6
            · have m1 := hlaq F1 _ h6
              have m2 := hq m1.2.1
              simp only at m1
              omega
            · have m1 := hown _ h6
              simp only at m1
              omega
          · have := (k4.id qm2 _ o (by omega) h').1
            omega
        simp only [Hp.get]
        rw [if_neg hid1]
        exact h
      have hne2 : ∀ id o, Hp.get (coH fc y (laO q F1 P ++ (R ++ H2 qm2))) id = some o → Hp.get (coH fc y (((n, .cells none false [iV lo, iV hi]) :: (laO q F1 P ++ R)) ++ H2 qm2)) id = some o := fun id o ho => by
        refine coH_sub (fun e50 e49 h => ?_) ho
        show Hp.get ((n, AObj.cells none false [iV lo, iV hi]) :: ((laO q F1 P ++ R) ++ H2 qm2)) id = some o
        have hne : ¬ n = id := fun e => by
          subst e
          rcases Hp.app_cases h with h' | ⟨_, h'⟩
          · have m1 := hlaq F1 _ (Hp.mem_of_get h')
            have m2 := hq m1.2.1
            simp only at m1
            omega
          · rcases Hp.app_cases h' with h' | ⟨_, h'⟩
            · have m1 := hown _ (Hp.mem_of_get h')
              simp only at m1
              omega
            · have := (k4.id qm2 _ o (by omega) h').1
              omega
        simp only [Hp.get]
        rw [if_neg hne, List.append_assoc]
        exact h
      have hQf := hQ0 (.lit (.bool false)) H2 qm2 n2 F1 (by omega) (by omega) k3 k4
      obtain ⟨S4, hS4⟩ : ∃ s, coH fc y (laO (n' + 1) fm2 (P ++ [v]) ++ (((n, .cells none false [iV lo, iV hi]) :: (laO q F1 P ++ R)) ++ H2 qm2)) = s := ⟨_, rfl⟩
      rw [hS4] at hne ⊢
      rcases k5 with ⟨rfl, k5⟩ | ⟨rfl, pre, l, post2, k5, k6⟩
      · refine AnyE.run tok hO (by kernel_rfl) (by cbv <;> rfl) (by trivial) ?_
        refine SW.condS (by cbv <;> rfl) (fun h7 => absurd h7 (by decide)) (fun _ => SW.skip ?_)
        refine SW.sub (by rfl) hne ?_
        obtain ⟨A3, hA3⟩ : ∃ a, ((n, AObj.cells none false [iV lo, iV hi]) :: (laO q F1 P ++ R)) ++ H2 qm2 = a := ⟨_, rfl⟩
        rw [hA3]
        refine (show SW _ _ _ _ _ _ from ?_)
        refine SW.run tok hO (by cbv <;> rfl) (by trivial) ?_
        have hinc : O.bin .add .i64 v 1 = lo + ((c + 1 : Nat) : Int) := by
          subst hO
          show add64 v 1 = _
          rw [add64_in _ _ (by omega) (by omega)]; omega
        refine ⟨N - (c + 1), by omega, _, c + 1, H2, qm2, n2, F1, rfl, ⟨rfl, rfl, rfl, rfl, rfl, congrArg (fun z => AV.lit (.int .i64 z)) hinc, trivial⟩, by rw [hA3]; rfl, by omega, by omega, k3, ?_, by omega, rfl⟩
        rw [hsn, ← List.append_assoc]; exact k5
      · refine AnyE.run tok hO (by kernel_rfl) (by cbv <;> rfl) (by trivial) ?_
        refine SW.condS (by cbv <;> rfl) (fun _ => ?_) (fun h7 => absurd h7 (by decide))
        refine SW.sub (h2 := coH fc y (laO q F1 P ++ (R ++ H2 qm2))) (by rfl) (fun id o ho => hne id o (hne2 id o ho)) ?_
        have hfin := hQf (.inr ⟨rfl, (List.range c).flatMap F ++ pre, l, post2 ++ r.flatMap F, by
          rw [hr, List.flatMap_append, hsn, k5]
          simp only [List.append_assoc, List.cons_append], by rw [← List.append_assoc]; exact k6⟩)
        obtain ⟨A3, hA3⟩ : ∃ a, laO q F1 P ++ (R ++ H2 qm2) = a := ⟨_, rfl⟩
        rw [hA3] at hfin ⊢
        unfold coH at hfin ⊢
        refine SW.seqRun tok hO (by cbv <;> rfl) (by trivial) ?_
        exact SW.ret ⟨_, _, rfl, rfl, hfin⟩
theorem co_all (hfc : fc < 49) (hfc2 : fc ≠ 48) (hy : y < 49) (hy2 : y ≠ 48) (hid : coK f K fc) (hg : ∀ i, i < f.ns → 0 ≤ f.slo i ∧ f.shi i ≤ 30) (hsm : f.ns < 900) (step : coStep K stop y E) : ∀ (m : Nat) (p : List Int), p.length + m = f.ns → ∀ (seen post : List (List Int)), E = seen ++ chE f.slo f.shi m p ++ post → ∀ (n q : Nat) (fm : Option Nat) (R : Hp) (H : Nat → Hp) (qm : Nat), CoI fc n p.length R H qm → (p ≠ [] → 51 ≤ q ∧ q < n ∧ q ≠ qm) → K seen H →
      CallW Try.prog 131 [laV q p, .ptr fc 0, .ptr 49 0, .ptr 50 0] ⟨coH fc y (laO q fm p ++ (R ++ H qm)), n⟩ (coQ K stop fc y n q qm R p seen (chE f.slo f.shi m p))
  | 0, [], hp, seen, post, hE, n, q, fm, R, H, qm, hI, hq, hK => co_leaf0 hfc hfc2 hy hy2 hid step hp (by omega) seen post hE n q fm R H qm hI hq hK
  | 0, v :: p, hp, seen, post, hE, n, q, fm, R, H, qm, hI, hq, hK => co_leaf1 hfc hfc2 hy hy2 hid step v p hp (by omega) seen post hE n q fm R H qm hI hq hK
  | m + 1, [], hp, seen, post, hE, n, q, fm, R, H, qm, hI, hq, hK => co_step0 hfc hfc2 hy hy2 hid hg hsm m (co_all hfc hfc2 hy hy2 hid hg hsm step m) hp seen post hE n q fm R H qm hI hq hK
  | m + 1, v :: p, hp, seen, post, hE, n, q, fm, R, H, qm, hI, hq, hK => co_step1 hfc hfc2 hy hy2 hid hg hsm m (co_all hfc hfc2 hy hy2 hid hg hsm step m) v p hp seen post hE n q fm R H qm hI hq hK
set_option maxHeartbeats 8000000 in
theorem choices130 (hfc : fc < 49) (hfc2 : fc ≠ 48) (hy : y < 49) (hy2 : y ≠ 48) (hid : coK f K fc) (hg : ∀ i, i < f.ns → 0 ≤ f.slo i ∧ f.shi i ≤ 30) (hsm : f.ns < 900) (hE : E = f.chL) (step : coStep K stop y E) (H : Nat → Hp) (hK : K [] H) (n0 : Nat) (hn0 : n0 ≤ 49) :
    CallW Try.prog 130 [.yld y, .ptr fc 0] ⟨H 48, n0⟩ (fun _ st' => ∃ H' q n, st' = ⟨H' q, n⟩ ∧ 49 ≤ n ∧ (q = 48 ∨ 49 ≤ q) ∧ q < n ∧ LowM 49 H' ∧ (K E H' ∨ ∃ pre l post, E = pre ++ l :: post ∧ stop pre l H')) := by
  obtain ⟨O, hO⟩ : ∃ O : Ar, O = std := ⟨_, rfl⟩
  obtain ⟨hlow, hfar⟩ := hid _ _ hK
  have hcall := co_all hfc hfc2 hy hy2 hid hg hsm step f.ns [] (by simp) [] [] (by rw [hE]; simp [FarmD.chL]) 51 0 none [] H 48 ⟨Nat.le_refl _, (fun _ h => nomatch h), (fun _ h => nomatch h), ⟨.inl rfl, by omega⟩, hlow⟩ (fun h => absurd rfl h) hK
  rw [show chE f.slo f.shi f.ns [] = E from hE.symm] at hcall
  obtain ⟨h48, hh48⟩ : ∃ x, H 48 = x := ⟨_, rfl⟩
  have hcall : CallW Try.prog 131 [nl3, .ptr fc 0, .ptr 49 0, .ptr 50 0] ⟨coH fc y (H 48), 51⟩ _ := hcall
  rw [hh48] at hcall ⊢
  refine CallW.weak (k1 := fun _ st1 => ∃ H' q, (∀ id o, Hp.get (H' q) id = some o → st1.h.get id = some o) ∧ 49 ≤ st1.n ∧ (q = 48 ∨ 49 ≤ q) ∧ q < st1.n ∧ LowM 49 H' ∧ (K E H' ∨ ∃ pre l post, E = pre ++ l :: post ∧ stop pre l H')) ?_
    (fun v st1 ⟨H', q, hg, hn, hq, hqn, hl, hk⟩ => .inr ⟨.any, ⟨H' q, st1.n⟩, ⟨.inl rfl, Nat.le_trans hn0 hn, Nat.le_refl _, fun id o ho => ⟨hg id o ho, by
      have := (hl.id q id o hq ho).1
      show id < st1.n
      omega, .inl rfl⟩⟩, H', q, st1.n, rfl, hn, hq, hqn, hl, hk⟩)
  refine CallW.pad (n := 49) hn0 ?_
  refine callW_of_body tok Try.func130 rfl ?_
  refine SW.seqRun tok hO (by cbv <;> rfl) (by trivial) ?_
  refine SW.seqRun tok hO (by cbv <;> rfl) (by trivial) ?_
  refine SW.seqRun tok hO (by cbv <;> rfl) (by trivial) ?_
  refine SW.runN tok hO 1 (by cbv <;> rfl) (by trivial) ?_
  refine OpsW.apply (c := coV fc) (args := [nl3]) (by cbv <;> rfl) (show ApplyW Try.prog (coV fc) _ _ _ from ⟨en131, hcall⟩) fun v st' hk => ?_
  obtain ⟨H', q', n', fm', k1, k2, k3, k4, rfl, k5⟩ := hk
  refine OpsW.nil ?_
  refine ⟨_, _, rfl, rfl, H', q', fun id o ho => ?_, by show 49 ≤ n'; omega, by omega, k3, k4, ?_⟩
  · have := (k4.id q' id o (by omega) ho).1
    show Hp.get (coH fc y (H' q')) id = some o
    rw [coH_get (by omega)]
    exact ho
  · rcases k5 with ⟨_, k5⟩ | ⟨_, pre, l, post, k5, k6⟩
    · exact .inl k5
    · exact .inr ⟨pre, l, post, k5, k6⟩
end
end Go.Fz
namespace Go.Fz
open Go.Proofs
set_option maxRecDepth 100000
section
variable {P : Program} {T : Ti}
end
end Go.Fz
namespace Go.Fz
end Go.Fz
namespace Go.Fz
open Go.Proofs
set_option maxRecDepth 100000
def farmO (f : FarmD) : AObj := .cells none false [springsV f, bedsV f, looksV f]
end Go.Fz
set_option linter.unusedVariables false
namespace Go.Fz
open Go.Proofs
set_option maxRecDepth 100000
section
variable {P : Program}
theorem YieldW.asideG {y : Nat} {args : List AV} {R : Hp} {H : Nat → Hp} {m n q : Nat} {k : AV → (Nat → Hp) → Prop} (hy : y < m) (hy2 : y ≠ 48) (hR : ∀ id o, R.get id = some o → (H q).get id = none ∧ o.own = true) (hm : 48 < m) (hmn : m ≤ n) (hq : q = 48 ∨ m ≤ q) (hqn : q < n) (hH : LowM m H) (hargs : ∀ a ∈ args, Below 0 a)
    (h : YieldW P y args ⟨H 48, m⟩ (LowP m k)) : YieldW P y args ⟨R ++ H q, n⟩ (MvP m n q k R) :=
  (YieldW.frame (R := R) (st := ⟨H q, n⟩) ⟨fun id o h => (hR id o h).2, fun id o h => (hR id o h).1, fun i j oi oj hi hj ⟨f, _, k2⟩ => by
    rw [(hH.id q j oj hq hj).2.1] at k2; cases k2⟩ (YieldW.lowM hy hy2 hm hmn hq hqn hH hargs h) (fun v st' ⟨H', q', n', hk, hl, h1, h2, h3, e⟩ => by
    subst e
    intro id o ho
    exact .inl (hl.id q' id o (by omega) ho).2.2)).mono
    fun v s ⟨st', ⟨H', q', n', hk, hl, h1, h2, h3, e⟩, es⟩ => by subst e; exact ⟨H', q', n', hk, hl, h1, h2, h3, es⟩
end
theorem SW.fmT {P : Program} {rd : Option Nat} {c : Code} {Q : Exit → Fm → St → Prop} {f1 : Fm} {len : Nat} {h : Hp} {n : Nat} (l : List (Nat × AV)) (e1 : len = f1.ts.len) (e2 : f1.dm = []) (e4 : AllW (n = n) n f1.ts.get l) (hlt : ∀ id o, h.get id = some o → id < n)
    (hs : SW P rd c Q ⟨⟨len, getT l⟩, []⟩ ⟨h, n⟩) : SW P rd c Q f1 ⟨h, n⟩ :=
  SW.pre (f2 := ⟨⟨len, getT l⟩, []⟩) (st2 := ⟨h, n⟩) ⟨e1, e2.symm, (fun _ h => nomatch h), getT_weak l e4.ok, Nat.le_refl _, Nat.le_refl _, fun id o ho => ⟨ho, hlt id o ho, .inl rfl⟩⟩ hs
def IdsM (m : Nat) (H : Nat → Hp) : Prop := ∀ q id o, (q = 48 ∨ 49 ≤ q) → (H q).get id = some o → id = q ∨ id < m
def noTr : AV := truthsV 0 true fun _ _ => .any
theorem noTr_below : Below 0 noTr := Below.isl fun _ _ h => absurd h (Nat.not_lt_zero _)
theorem start67 {f : FarmD} (g : f.Good) : Pure Try.prog 67 [farmV f] (workV f noTr (f.k0 f.nb)) :=
  (start_ok f g.nb).res (Eqv.agg (.cons (Eqv.refl _) (.cons (Eqv.refl _) (.cons (Eqv.refl _) (.cons Eqv.nil (.cons (Eqv.refl _) (.cons (Eqv.refl _) (.cons (Eqv.refl _) (.cons (Eqv.refl _) (.cons (Eqv.refl _) (.cons (Eqv.refl _) (.cons (Eqv.refl _) (.cons (Eqv.refl _) .nil)))))))))))))
theorem play68 {f : FarmD} (g : f.Good) {m : Nat} {ex' : Bool} {h : Nat → Nat → AV} (htr : Below 0 (truthsV m ex' h)) (K : Nat → Int) {l : List Int} (hl : l.length = f.ns) : Pure Try.prog 68 [workV f (truthsV m ex' h) K, zV l] (watersV (playF f K (zL l))) := by
  have hns := g.ns
  exact play_ok f m ex' h K l.length false (zL l) htr g.nb (by omega) (by omega) (fun s hs => ⟨(g.spring s hs).1.1, by have := (g.spring s hs).1.2; have := g.nb; omega⟩) (fun i hi => by have := (g.bed i hi).2.2; have := g.nb; omega)
theorem right71 {f : FarmD} (g : f.Good) (hs : f.small) (W : Wat) : Pure Try.prog 71 [farmV f, nl3, watersV W] (.sb (allN f.nl (f.rightB W))) := by
  have hb : allN f.nl (f.butB 0 (fun _ => 0) W) = allN f.nl (f.rightB W) := allN_congr fun i hi => by
    have : hasN 0 (fun _ => 0) (i : Int) = false := by simp [hasN]
    simp [FarmD.butB, this]
  rw [← hb]
  exact Pure.eqv (rightBut_ok f hs W 0 true (fun _ => 0) (by omega) (fun i hi => ⟨(g.look i hi).1.1, by have := (g.look i hi).1.2; have := g.nb; omega⟩)) (.cons (Eqv.refl _) (.cons Eqv.nil (.cons (Eqv.refl _) .nil)))
theorem choices96 (f : FarmD) (h : Hp) (n : Nat) : CallW Try.prog 96 [farmV f] ⟨h, n⟩ (fun v st' => v = .fn (.func 130) [] [.ptr n 0] ∧ st' = ⟨(n, farmO f) :: h, n + 1⟩) := by
  obtain ⟨O, hO⟩ : ∃ O : Ar, O = std := ⟨_, rfl⟩
  refine callW_of_body tok Try.func96 rfl ?_
  refine SW.seqRun tok hO (by cbv <;> rfl) (by trivial) ?_
  refine SW.seqRun tok hO (by cbv <;> rfl) (by trivial) ?_
  exact SW.ret ⟨_, _, rfl, rfl, rfl, rfl⟩
theorem own122 (f : FarmD) (h : Hp) (n : Nat) : CallW Try.prog 122 [farmV f] ⟨h, n⟩ (fun v st' => v = .fn (.func 137) [] [.ptr n 0] ∧ st' = ⟨(n, farmO f) :: h, n + 1⟩) := by
  obtain ⟨O, hO⟩ : ∃ O : Ar, O = std := ⟨_, rfl⟩
  refine callW_of_body tok Try.func122 rfl ?_
  refine SW.seqRun tok hO (by cbv <;> rfl) (by trivial) ?_
  refine SW.seqRun tok hO (by cbv <;> rfl) (by trivial) ?_
  exact SW.ret ⟨_, _, rfl, rfl, rfl, rfl⟩
def FarmD.rgt (f : FarmD) (l : List Int) : Bool := allN f.nl (f.rightB (f.water (zL l)))
def FarmD.trs (f : FarmD) : List (List Int) := f.chL.filter f.rgt
noncomputable def owParts : Code × Code := match findRF (bodyF Try.f137) with
  | some p => p
  | none => (.skip, .skip)
def owL : List (Nat × AV) := [(1, .ptr 39 0), (2, .ptr 43 0), (3, .ptr 44 0), (8, .fn (.func 130) [] [.ptr 45 0])]
noncomputable def owR : ALoop := { state := .ready, pending := none, tmps := ⟨21, getT owL⟩, params := #[9], assign := owParts.1, body := owParts.2, dfid := 46 }
noncomputable def owRx : ALoop := { owR with state := .done, pending := some .ret }
def owH (f : FarmD) (y : Nat) (r : ALoop) (B : Hp) : Hp := (47, .loop r) :: (46, .dfr) :: (45, farmO f) :: (44, .cells none false (workC f noTr (f.k0 f.nb))) :: (43, .cells none false [.yld y]) :: (39, farmO f) :: B
theorem owH_low {f : FarmD} {y : Nat} {st : LoopState} {c : Option Code} {B : Nat → Hp} (hy : y < 43) (hB : LowM 49 B) : LowM 49 (fun q => owH f y { owR with state := st, pending := c } (B q)) := by
  have hp : ∀ {ρ : Nat → Nat} {n j : Nat}, (∀ i, i < 49 → i ≠ 48 → ρ i = i) → 49 ≤ n → j < 49 → j ≠ 48 → RenV ρ n (.ptr j 0) (.ptr j 0) := fun {ρ n j} hρ hn hj h48 => by
    have := RenV.ptr (ρ := ρ) (n := n) (j := j) (off := 0) (by omega)
    rwa [hρ j hj h48] at this
  refine LowM.cons (o := fun _ => .loop { owR with state := st, pending := c }) (by omega) (by omega) (MvO.of rfl rfl fun ρ n hρ hn => .base (.loop rfl rfl rfl rfl rfl (by show 46 = ρ 46; rw [hρ 46 (by omega) (by omega)]) (by show 46 < n; omega) rfl
    (RenV.getT (l := owL) ⟨hp hρ hn (by omega) (by omega), hp hρ hn (by omega) (by omega), hp hρ hn (by omega) (by omega), RenV.fn .nil (.cons (hp hρ hn (by omega) (by omega)) .nil), trivial⟩))) ?_
  refine LowM.cons (o := fun _ => .dfr) (by omega) (by omega) (MvO.of rfl rfl fun ρ n hρ hn => .base .dfr) ?_
  refine LowM.cons (o := fun _ => farmO f) (by omega) (by omega) (MvO.ints (farmL_below f)) ?_
  refine LowM.cons (o := fun _ => .cells none false (workC f noTr (f.k0 f.nb))) (by omega) (by omega) (MvO.ints (workC_below' f 0 noTr _ noTr_below)) ?_
  refine LowM.cons (o := fun _ => .cells none false [.yld y]) (by omega) (by omega) (MvO.cells fun ρ n hρ hn => .cons (by
    have := RenV.yld (ρ := ρ) (n := n) (j := y) (by omega)
    rwa [hρ y (by omega) (by omega)] at this) .nil) ?_
  exact LowM.cons (o := fun _ => farmO f) (by omega) (by omega) (MvO.ints (farmL_below f)) hB
end Go.Fz
