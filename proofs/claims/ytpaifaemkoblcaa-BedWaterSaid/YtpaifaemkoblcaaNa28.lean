/- Own work of the verifier of watercress: FzB2, FzB3, FzB4, FzB5. -/
import Derived.Test.YtpaifaemkoblcaaNa27
set_option linter.unusedVariables false
set_option linter.unusedSimpArgs false
set_option linter.unusedVariables false
namespace Go.Fz
open Go.Proofs
set_option maxRecDepth 100000
section
variable {K : List (List Nat) → Hp → Prop} {stop : List (List Nat) → List Nat → Hp → Prop} {y many : Nat} {E : List (List Nat)}
set_option maxHeartbeats 16000000 in
theorem li_step0 (hy : y < 38) (hlw : ∀ s h, K s h → LowX 38 h ∧ Hp.get h 35 = none) (hmn : many < 900) (len : Nat) (hsm : len < 900) (m : Nat)
    (ih : ∀ (p : List Nat) (s : Nat), p.length + m = len → s ≤ many → ∀ (seen post : List (List Nat)), E = seen ++ liE many m p s ++ post → ∀ (n q : Nat) (fm : Option Nat) (R h : Hp), LiI n p.length R h → (p ≠ [] → 42 ≤ q ∧ q < n) → K seen h →
      CallW Try.prog 128 [laV q (nI p), iV (s : Int), .ptr 40 0, .ptr 39 0, .ptr 35 0, .ptr 41 0] ⟨liH y many len (laO q fm (nI p) ++ (R ++ h)), n⟩ (liQ K stop y many len n q R p seen (liE many m p s)))
     (hp : (([] : List Nat)).length + (m + 1) = len) (s : Nat) (hs : s ≤ many) (seen post : List (List Nat)) (hE : E = seen ++ liE many (m + 1) (([] : List Nat)) s ++ post) (n q : Nat) (fm : Option Nat) (R h : Hp)
    (hI : LiI n (([] : List Nat)).length R h) (hq : ([] : List Nat) ≠ [] → 42 ≤ q ∧ q < n) (hK : K seen h) :
    CallW Try.prog 128 [laV q (nI (([] : List Nat))), iV (s : Int), .ptr 40 0, .ptr 39 0, .ptr 35 0, .ptr 41 0] ⟨liH y many len (laO q fm (nI (([] : List Nat))) ++ (R ++ h)), n⟩ (liQ K stop y many len n q R (([] : List Nat)) seen (liE many (m + 1) (([] : List Nat)) s)) := by
  obtain ⟨O, hO⟩ : ∃ O : Ar, O = std := ⟨_, rfl⟩
  have hlow := (hlw _ _ hK).1
  obtain ⟨P, hP⟩ : ∃ P : List Nat, P = ([] : List Nat) := ⟨_, rfl⟩
  obtain ⟨L, hL⟩ : ∃ L, P.length = L := ⟨_, rfl⟩
  have hL0 : L = 0 := by rw [← hL, hP]; rfl
  rw [← hP] at hp hE hI ⊢
  replace hq : P ≠ [] → 42 ≤ q ∧ q < n := fun h => absurd hP h
  obtain ⟨N, hN⟩ : ∃ N, many - s = N := ⟨_, rfl⟩
  obtain ⟨F, hF⟩ : ∃ F : Nat → List (List Nat), F = fun (c : Nat) => liE many m (P ++ [s + c]) (s + c + 1) := ⟨_, rfl⟩
  have hEE : liE many (m + 1) P s = (List.range N).flatMap F := by rw [hF, ← hN]; rfl
  rw [hEE] at hE ⊢
  have hsn : ∀ c, (List.range (c + 1)).flatMap F = (List.range c).flatMap F ++ F c := fun c => by rw [List.range_succ, List.flatMap_append]; simp
  have hin := hI.lo
  obtain ⟨QQ, hQQ⟩ : ∃ r, liQ K stop y many len n q R P seen ((List.range N).flatMap F) = r := ⟨_, rfl⟩
  have hQ0 : ∀ v h' n' fm', n ≤ n' → LowX 38 h' → ((v = .lit (.bool true) ∧ K (seen ++ (List.range N).flatMap F) h') ∨ (v = .lit (.bool false) ∧ ∃ pre l post, (List.range N).flatMap F = pre ++ l :: post ∧ stop (seen ++ pre) l h')) → QQ v ⟨liH y many len (laO q fm' (nI P) ++ (R ++ h')), n'⟩ := fun v h' n' fm' h1 h4 h5 => by rw [← hQQ]; exact ⟨h', n', fm', h1, h4, rfl, h5⟩
  rw [hQQ]
  clear hQQ
  have hown := fun x hx => hI.own x hx
  have hkept := hI.kept
  obtain ⟨sa, hsa⟩ : ∃ sa : Int, (s : Int) = sa := ⟨_, rfl⟩
  obtain ⟨mn, hmnn⟩ : ∃ mn : Int, (many : Int) = mn := ⟨_, rfl⟩
  obtain ⟨le, hle0⟩ : ∃ le : Int, (len : Int) = le := ⟨_, rfl⟩
  have hlaq : ∀ fm', ∀ x ∈ laO q fm' (nI P), x.1 = q ∧ P ≠ [] ∧ x.2.own = true := fun fm' x hx => by
    obtain ⟨k1, k2⟩ := laO_mem hx
    rw [k2]; exact ⟨rfl, fun e => k1 (by rw [e]; rfl), rfl⟩
  have hids : ∀ fm' (h' : Hp) n', n ≤ n' → LowX 38 h' → ∀ id o, Hp.get (liH y many len ((laO q fm' (nI P) ++ R) ++ h')) id = some o → id < n' := fun fm' h' n' h1 h2 id o ho => by
    by_cases e : id = 41 ∨ id = 40 ∨ id = 39 ∨ id = 35
    · omega
    rw [liH_get (by omega)] at ho
    rcases Hp.app_cases ho with h' | ⟨_, h'⟩
    · rcases List.mem_append.1 (Hp.mem_of_get h') with h | h
      · have := hlaq fm' _ h
        have := hq this.2.1
        simp only at *
        omega
      · have := hown _ h
        simp only at this
        omega
    · have := (h2 id o h').1
      omega
  have hchild : ∀ fm' (h' : Hp) n', n ≤ n' → LowX 38 h' → LiI n' (L + 1) (laO q fm' (nI P) ++ R) h' := fun fm' h' n' h1 h2 => ⟨by omega, (fun x hx F X hX => by
      rcases List.mem_append.1 hx with hx | hx
      · obtain ⟨k1, k2⟩ := laO_mem hx
        rw [k2]
        exact Kept.cells (L := L + 1) (R := []) (id := q) (by rw [flatG_length, Nat.mul_one, nI_len]; omega) (fun _ h => nomatch h) (q, _) List.mem_cons_self F X hX
      · exact hkept x hx F X (by omega)), fun x hx => by
      rcases List.mem_append.1 hx with hx | hx
      · have k1 := hlaq fm' _ hx
        have k2 := hq k1.2.1
        exact ⟨by omega, by omega, k1.2.2⟩
      · have k1 := hown x hx
        exact ⟨by omega, by omega, k1.2.2⟩, h2⟩
  rw [← List.append_assoc]
  obtain ⟨A1, hA1⟩ : ∃ a, (laO q fm (nI P) ++ R) ++ h = a := ⟨_, rfl⟩
  rw [hA1]
  have hX : laV q (nI P) = nl3 := by rw [hP]; rfl
  rw [hX]
  unfold liH
  rw [hsa, hmnn, hle0]
  refine callW_of_body tok Try.func128 rfl ?_
  refine SW.seqRun tok hO (by cbv <;> rfl) (by trivial) ?_
  refine SW.seq ?_
  refine SW.seqRun tok hO (by cbv <;> rfl) (by trivial) ?_
  refine SW.condS (by cbv <;> rfl) (fun h1 => ?_) (fun h1 => SW.skip ?_)
  · exfalso
    have h2 : ((0 : Nat) : Int) = le := by subst hO; simpa [std] using h1
    omega
  refine (show SW _ _ _ _ _ _ from ?_)
  refine SW.seq ?_
  refine SW.seqRun tok hO (by cbv <;> rfl) (by trivial) ?_
  rw [← hsa, ← hmnn, ← hle0]
  refine (SW.block (SW.loop (fun k f st => ∃ (g : Nat → AV) (c : Nat) (h' : Hp) (n' : Nat) (fm' : Option Nat), f = ⟨⟨33, g⟩, []⟩ ∧ AllP (fun p => g p.1 = p.2) [(0, nl3), (2, .ptr 40 0), (3, .ptr 39 0), (4, .ptr 35 0), (5, .ptr 41 0), (9, iV (sa + (c : Int)))] ∧
      st = ⟨liH y many len ((laO q fm' (nI P) ++ R) ++ h'), n'⟩ ∧ n ≤ n' ∧ K (seen ++ (List.range c).flatMap F) h' ∧ c ≤ N ∧ k = N - c) (N - 0) ?_ ?_))
  · refine ⟨_, 0, h, n, fm, rfl, ⟨rfl, rfl, rfl, rfl, rfl, ?_, trivial⟩, by rw [hA1]; rfl, Nat.le_refl _, by simpa using hK, Nat.zero_le _, rfl⟩
    show iV (s : Int) = iV (sa + ((0 : Nat) : Int))
    rw [show sa + ((0 : Nat) : Int) = (s : Int) by omega]
  · rintro k f0 st ⟨g, c, h', n', fm', rfl, ⟨g0, g2, g3, g4, g5, g9, _⟩, rfl, hn', hK', hle, rfl⟩
    simp only at g0 g2 g3 g4 g5 g9
    rw [← updT_self g0, ← updT_self g2, ← updT_self g3, ← updT_self g4, ← updT_self g5, ← updT_self g9]
    have hlow' := (hlw _ _ hK').1
    obtain ⟨v, hv⟩ : ∃ v, sa + (c : Int) = v := ⟨_, rfl⟩
    rw [hv]
    obtain ⟨A2, hA2⟩ : ∃ a, (laO q fm' (nI P) ++ R) ++ h' = a := ⟨_, rfl⟩
    rw [hA2]
    have hst0 : liH y many len A2 = (41, .cells none false [exV]) :: (40, .cells none false [iV le]) :: (39, .cells none false [.yld y]) :: (35, .cells none false [iV mn]) :: A2 := by unfold liH; rw [hmnn, hle0]
    rw [hst0]
    unfold exV
    refine SW.seq ?_
    refine SW.seqRun tok hO (by cbv <;> rfl) (by trivial) ?_
    refine SW.condS (by cbv <;> rfl) (fun h3 => SW.skip ?_) (fun h3 => SW.exit ?_)
    rotate_left
    · have hgt : ¬ v < mn := by subst hO; simpa [std] using h3
      have hc : c = N := by omega
      refine (show SW _ _ _ _ _ _ from ?_)
      have hfin := hQ0 (.lit (.bool true)) h' n' fm' hn' hlow' (.inl ⟨rfl, by rw [← hc]; exact hK'⟩)
      rw [← List.append_assoc, hA2, hst0] at hfin
      unfold exV at hfin
      refine SW.seqRun tok hO (by cbv <;> rfl) (by trivial) ?_
      exact SW.ret ⟨_, _, rfl, rfl, hfin⟩
    · have hvle : v < mn := by subst hO; simpa [std] using h3
      have hcN : c < N := by omega
      have hvN : v = ((s + c : Nat) : Int) := by omega
      refine (show SW _ _ _ _ _ _ from ?_)
      obtain ⟨r, hr⟩ := range_split (c + 1) N hcN
      have hlenP : (P ++ [s + c]).length = L + 1 := by rw [List.length_append, List.length_singleton, hL]
      have hFc : liE many m (P ++ [s + c]) (s + c + 1) = F c := by rw [hF]
      have hE2 : E = (seen ++ (List.range c).flatMap F) ++ liE many m (P ++ [s + c]) (s + c + 1) ++ (r.flatMap F ++ post) := by
        rw [hE, hr, List.flatMap_append, hsn, hFc]
        simp [List.append_assoc]
      have hinc : O.bin .add .i64 v 1 = ((s + c + 1 : Nat) : Int) := by
        subst hO
        show add64 v 1 = _
        rw [add64_in _ _ (by omega) (by omega)]; omega
      obtain ⟨F1, hF1⟩ : ∃ F1, F1 = fm' := ⟨_, rfl⟩
      have happ := app_co0 (t := 27) (n := n') (h0 := liH y many len A2) (v := v) (ex := true) (by kernel_rfl)
      obtain ⟨h3', hh3⟩ : ∃ h3 : Hp, h3 = (n' + 1, .cells none false [iV v]) :: (n', .cells none false [iV v]) :: liH y many len A2 := ⟨_, rfl⟩
      rw [← hh3] at happ
      have hrec := ih (P ++ [s + c]) (s + c + 1) (by rw [hlenP]; omega) (by omega) (seen ++ (List.range c).flatMap F) _ hE2 (n' + 1 + 1) (n' + 1) none _ h' (by rw [hlenP]; exact hchild F1 h' (n' + 1 + 1) (by omega) hlow') (fun _ => ⟨by omega, by omega⟩) hK'
      have hrv : laV (n' + 1) (nI (P ++ [s + c])) = .sl (n' + 1) 0 1 1 false := by rw [nI_snoc, laV_snoc, nI_len, hL, hL0]
      rw [hrv] at hrec
      have hsub : ∀ id o, Hp.get (liH y many len (laO (n' + 1) none (nI (P ++ [s + c])) ++ ((laO q F1 (nI P) ++ R) ++ h'))) id = some o → h3'.get id = some o ∧ id < n' + 1 + 1 := fun id o ho => by
        have hv1 : flatG 1 (intC (zL (nI P ++ [((s + c : Nat) : Int)]))) ((nI P).length + 1) = [iV v] := by rw [hvN, hP]; rfl
        rw [nI_snoc, laO_snoc, hv1] at ho
        rw [hh3]
        simp only [Hp.get]
        by_cases e : n' + 1 = id
        · rw [if_pos e]
          rw [← e, liH_get (by omega)] at ho
          simp only [List.cons_append, List.nil_append, Hp.get] at ho
          rw [if_pos trivial] at ho
          exact ⟨ho, by omega⟩
        · have h9 : Hp.get (liH y many len ((laO q F1 (nI P) ++ R) ++ h')) id = some o := by
            refine liH_sub (fun _ h => ?_) ho
            simp only [List.cons_append, List.nil_append, Hp.get] at h ⊢
            rw [if_neg e] at h
            exact h
          have hlt := hids F1 h' n' hn' hlow' id o h9
          rw [if_neg e, if_neg (by omega), ← hA2, ← hF1]
          exact ⟨h9, by omega⟩
      have hg51 : h3'.get 41 = some (.cells none false [exV]) := (hsub 41 _ (by unfold liH; simp only [Hp.get]; rw [if_pos trivial])).1
      have hrec2 := CallW.sub hsub hrec
      rw [hFc, show iV ((s + c + 1 : Nat) : Int) = AV.lit (.int .i64 (O.bin .add .i64 v 1)) by rw [hinc]; rfl] at hrec2
      refine SW.seq (SW.block ?_)
      rw [hst0] at happ
      unfold exV at happ
      have hld : loadA Fz.T h3' 153 (.ptr 41 0) = some (.fn (.func 128) [] [.ptr 40 0, .ptr 39 0, .ptr 35 0, .ptr 41 0]) := by
        have h5 := hg51
        simp only [loadA, ptrOf, cellsAt, h5]
        rfl
      have hld0 : ∀ B : Hp, loadA Fz.T ((n', .cells none false [iV v]) :: (41, .cells none false [.fn (.func 128) [] [.ptr 40 0, .ptr 39 0, .ptr 35 0, .ptr 41 0]]) :: B) 153 (.ptr 41 0) = some (.fn (.func 128) [] [.ptr 40 0, .ptr 39 0, .ptr 35 0, .ptr 41 0]) := fun B => by
        have h5 : Hp.get ((n', .cells none false [iV v]) :: (41, .cells none false [.fn (.func 128) [] [.ptr 40 0, .ptr 39 0, .ptr 35 0, .ptr 41 0]]) :: B) 41 = some (.cells none false [.fn (.func 128) [] [.ptr 40 0, .ptr 39 0, .ptr 35 0, .ptr 41 0]]) := by
          simp only [Hp.get]
          rw [if_neg (by omega), if_pos trivial]
        simp only [loadA, ptrOf, cellsAt, h5]
        rfl
      refine SW.seqRunD tok mixed hO (by kernel_rfl) (by cbv <;> rfl) (by trivial) ?_
      refine AnyE.effK tok hO (by cbv <;> rfl) (by cbv <;> rfl) (by trivial) ?_ ?_
      · exact (by repeat (first | exact trivial | refine And.intro (by first | exact LV.of (hld0 _) | exact hld0 _ | exact lv_of hO (by cbv <;> rfl) (by trivial) | (cbv <;> rfl)) ?_))
      refine AnyE.run tok hO (by kernel_rfl) (by cbv <;> rfl) (by trivial) ?_
      refine AnyE.appK tok (by cbv <;> rfl) (by cbv <;> rfl) happ ?_ ?_
      · exact (by repeat (first | exact trivial | refine And.intro (by first | exact hld | exact lv_of hO (by cbv <;> rfl) (by trivial) | (cbv <;> rfl)) ?_))
      refine AnyE.run tok hO (by kernel_rfl) (by cbv <;> rfl) (by trivial) ?_
      refine AnyE.apply (c := exV) (args := [.sl (n' + 1) 0 1 1 false, .lit (.int .i64 (O.bin .add .i64 v 1))]) (by cbv <;> rfl) (by cbv <;> rfl) (show ApplyW Try.prog exV _ _ _ from ⟨en128, hrec2⟩) fun w st' hk => ?_
      obtain ⟨h2, n2, fm2, k1, k4, rfl, k5⟩ := hk
      have hne : ∀ id o, Hp.get (liH y many len ((laO q F1 (nI P) ++ R) ++ h2)) id = some o → Hp.get (liH y many len (laO (n' + 1) fm2 (nI (P ++ [s + c])) ++ ((laO q F1 (nI P) ++ R) ++ h2))) id = some o ∧ id < n2 := fun id o ho => by
        have hlt := hids F1 h2 n2 (by omega) k4 id o ho
        refine ⟨liH_sub (fun e1 h => ?_) ho, hlt⟩
        rw [nI_snoc, laO_snoc]
        show Hp.get ((n' + 1, _) :: _) id = some o
        have hid1 : ¬ n' + 1 = id := fun e => by
          rcases Hp.app_cases h with h' | ⟨_, h'⟩
          · rcases List.mem_append.1 (Hp.mem_of_get h') with h6 | h6
            · have m1 := hlaq F1 _ h6
              have m2 := hq m1.2.1
              simp only at m1
              omega
            · have m1 := hown _ h6
              simp only at m1
              omega
          · have := (k4 _ o h').1
            omega
        simp only [Hp.get]
        rw [if_neg hid1]
        exact h
      have hQf := hQ0 (.lit (.bool false)) h2 n2 F1 (by omega) k4
      obtain ⟨S4, hS4⟩ : ∃ z, liH y many len (laO (n' + 1) fm2 (nI (P ++ [s + c])) ++ ((laO q F1 (nI P) ++ R) ++ h2)) = z := ⟨_, rfl⟩
      rw [hS4] at hne ⊢
      rcases k5 with ⟨rfl, k5⟩ | ⟨rfl, pre, l, post2, k5, k6⟩
      · refine AnyE.run tok hO (by kernel_rfl) (by cbv <;> rfl) (by trivial) ?_
        refine SW.condS (by cbv <;> rfl) (fun h7 => absurd h7 (by decide)) (fun _ => SW.skip ?_)
        refine SW.sub (by rfl) hne ?_
        obtain ⟨A3, hA3⟩ : ∃ a, (laO q F1 (nI P) ++ R) ++ h2 = a := ⟨_, rfl⟩
        rw [hA3]
        refine (show SW _ _ _ _ _ _ from ?_)
        refine SW.run tok hO (by cbv <;> rfl) (by trivial) ?_
        have hinc2 : O.bin .add .i64 v 1 = sa + ((c + 1 : Nat) : Int) := by rw [hinc]; omega
        refine ⟨N - (c + 1), by omega, _, c + 1, h2, n2, F1, rfl, ⟨rfl, rfl, rfl, rfl, rfl, congrArg (fun z => AV.lit (.int .i64 z)) hinc2, trivial⟩, by rw [hA3]; rfl, by omega, ?_, by omega, rfl⟩
        rw [hsn, ← List.append_assoc]; exact k5
      · refine AnyE.run tok hO (by kernel_rfl) (by cbv <;> rfl) (by trivial) ?_
        refine SW.condS (by cbv <;> rfl) (fun _ => ?_) (fun h7 => absurd h7 (by decide))
        refine SW.sub (by rfl) hne ?_
        have hfin := hQf (.inr ⟨rfl, (List.range c).flatMap F ++ pre, l, post2 ++ r.flatMap F, by
          rw [hr, List.flatMap_append, hsn, k5]
          simp only [List.append_assoc, List.cons_append], by rw [← List.append_assoc]; exact k6⟩)
        rw [← List.append_assoc] at hfin
        obtain ⟨A3, hA3⟩ : ∃ a, (laO q F1 (nI P) ++ R) ++ h2 = a := ⟨_, rfl⟩
        rw [hA3] at hfin ⊢
        refine SW.seqRun tok hO (by cbv <;> rfl) (by trivial) ?_
        exact SW.ret ⟨_, _, rfl, rfl, hfin⟩
set_option maxHeartbeats 16000000 in
theorem li_step1 (hy : y < 38) (hlw : ∀ s h, K s h → LowX 38 h ∧ Hp.get h 35 = none) (hmn : many < 900) (len : Nat) (hsm : len < 900) (m : Nat)
    (ih : ∀ (p : List Nat) (s : Nat), p.length + m = len → s ≤ many → ∀ (seen post : List (List Nat)), E = seen ++ liE many m p s ++ post → ∀ (n q : Nat) (fm : Option Nat) (R h : Hp), LiI n p.length R h → (p ≠ [] → 42 ≤ q ∧ q < n) → K seen h →
      CallW Try.prog 128 [laV q (nI p), iV (s : Int), .ptr 40 0, .ptr 39 0, .ptr 35 0, .ptr 41 0] ⟨liH y many len (laO q fm (nI p) ++ (R ++ h)), n⟩ (liQ K stop y many len n q R p seen (liE many m p s)))
    (v0 : Nat) (p : List Nat) (hp : (v0 :: p).length + (m + 1) = len) (s : Nat) (hs : s ≤ many) (seen post : List (List Nat)) (hE : E = seen ++ liE many (m + 1) (v0 :: p) s ++ post) (n q : Nat) (fm : Option Nat) (R h : Hp)
    (hI : LiI n (v0 :: p).length R h) (hq : v0 :: p ≠ [] → 42 ≤ q ∧ q < n) (hK : K seen h) :
    CallW Try.prog 128 [laV q (nI (v0 :: p)), iV (s : Int), .ptr 40 0, .ptr 39 0, .ptr 35 0, .ptr 41 0] ⟨liH y many len (laO q fm (nI (v0 :: p)) ++ (R ++ h)), n⟩ (liQ K stop y many len n q R (v0 :: p) seen (liE many (m + 1) (v0 :: p) s)) := by
  obtain ⟨O, hO⟩ : ∃ O : Ar, O = std := ⟨_, rfl⟩
  have hlow := (hlw _ _ hK).1
  obtain ⟨P, hP⟩ : ∃ P : List Nat, P = v0 :: p := ⟨_, rfl⟩
  obtain ⟨L, hL⟩ : ∃ L, P.length = L := ⟨_, rfl⟩
  rw [← hP] at hp hE hI hq ⊢
  obtain ⟨N, hN⟩ : ∃ N, many - s = N := ⟨_, rfl⟩
  obtain ⟨F, hF⟩ : ∃ F : Nat → List (List Nat), F = fun (c : Nat) => liE many m (P ++ [s + c]) (s + c + 1) := ⟨_, rfl⟩
  have hEE : liE many (m + 1) P s = (List.range N).flatMap F := by rw [hF, ← hN]; rfl
  rw [hEE] at hE ⊢
  have hsn : ∀ c, (List.range (c + 1)).flatMap F = (List.range c).flatMap F ++ F c := fun c => by rw [List.range_succ, List.flatMap_append]; simp
  have hin := hI.lo
  obtain ⟨QQ, hQQ⟩ : ∃ r, liQ K stop y many len n q R P seen ((List.range N).flatMap F) = r := ⟨_, rfl⟩
  have hQ0 : ∀ v h' n' fm', n ≤ n' → LowX 38 h' → ((v = .lit (.bool true) ∧ K (seen ++ (List.range N).flatMap F) h') ∨ (v = .lit (.bool false) ∧ ∃ pre l post, (List.range N).flatMap F = pre ++ l :: post ∧ stop (seen ++ pre) l h')) → QQ v ⟨liH y many len (laO q fm' (nI P) ++ (R ++ h')), n'⟩ := fun v h' n' fm' h1 h4 h5 => by rw [← hQQ]; exact ⟨h', n', fm', h1, h4, rfl, h5⟩
  rw [hQQ]
  clear hQQ
  have hown := fun x hx => hI.own x hx
  have hkept := hI.kept
  obtain ⟨sa, hsa⟩ : ∃ sa : Int, (s : Int) = sa := ⟨_, rfl⟩
  obtain ⟨mn, hmnn⟩ : ∃ mn : Int, (many : Int) = mn := ⟨_, rfl⟩
  obtain ⟨le, hle0⟩ : ∃ le : Int, (len : Int) = le := ⟨_, rfl⟩
  have hlaq : ∀ fm', ∀ x ∈ laO q fm' (nI P), x.1 = q ∧ P ≠ [] ∧ x.2.own = true := fun fm' x hx => by
    obtain ⟨k1, k2⟩ := laO_mem hx
    rw [k2]; exact ⟨rfl, fun e => k1 (by rw [e]; rfl), rfl⟩
  have hids : ∀ fm' (h' : Hp) n', n ≤ n' → LowX 38 h' → ∀ id o, Hp.get (liH y many len ((laO q fm' (nI P) ++ R) ++ h')) id = some o → id < n' := fun fm' h' n' h1 h2 id o ho => by
    by_cases e : id = 41 ∨ id = 40 ∨ id = 39 ∨ id = 35
    · omega
    rw [liH_get (by omega)] at ho
    rcases Hp.app_cases ho with h' | ⟨_, h'⟩
    · rcases List.mem_append.1 (Hp.mem_of_get h') with h | h
      · have := hlaq fm' _ h
        have := hq this.2.1
        simp only at *
        omega
      · have := hown _ h
        simp only at this
        omega
    · have := (h2 id o h').1
      omega
  have hchild : ∀ fm' (h' : Hp) n', n ≤ n' → LowX 38 h' → LiI n' (L + 1) (laO q fm' (nI P) ++ R) h' := fun fm' h' n' h1 h2 => ⟨by omega, (fun x hx F X hX => by
      rcases List.mem_append.1 hx with hx | hx
      · obtain ⟨k1, k2⟩ := laO_mem hx
        rw [k2]
        exact Kept.cells (L := L + 1) (R := []) (id := q) (by rw [flatG_length, Nat.mul_one, nI_len]; omega) (fun _ h => nomatch h) (q, _) List.mem_cons_self F X hX
      · exact hkept x hx F X (by omega)), fun x hx => by
      rcases List.mem_append.1 hx with hx | hx
      · have k1 := hlaq fm' _ hx
        have k2 := hq k1.2.1
        exact ⟨by omega, by omega, k1.2.2⟩
      · have k1 := hown x hx
        exact ⟨by omega, by omega, k1.2.2⟩, h2⟩
  rw [← List.append_assoc]
  obtain ⟨A1, hA1⟩ : ∃ a, (laO q fm (nI P) ++ R) ++ h = a := ⟨_, rfl⟩
  rw [hA1]
  have hX : laV q (nI P) = .sl q 0 L 1 false := by
    rw [← hL, hP]
    show AV.sl q 0 ((nI p).length + 1) 1 false = _
    rw [nI_len]; rfl
  rw [hX]
  unfold liH
  rw [hsa, hmnn, hle0]
  refine callW_of_body tok Try.func128 rfl ?_
  refine SW.seqRun tok hO (by cbv <;> rfl) (by trivial) ?_
  refine SW.seq ?_
  refine SW.seqRun tok hO (by cbv <;> rfl) (by trivial) ?_
  refine SW.condS (by cbv <;> rfl) (fun h1 => ?_) (fun h1 => SW.skip ?_)
  · exfalso
    have h2 : ((L : Nat) : Int) = le := by subst hO; simpa [std] using h1
    omega
  refine (show SW _ _ _ _ _ _ from ?_)
  refine SW.seq ?_
  refine SW.seqRun tok hO (by cbv <;> rfl) (by trivial) ?_
  rw [← hsa, ← hmnn, ← hle0]
  refine (SW.block (SW.loop (fun k f st => ∃ (g : Nat → AV) (c : Nat) (h' : Hp) (n' : Nat) (fm' : Option Nat), f = ⟨⟨33, g⟩, []⟩ ∧ AllP (fun p => g p.1 = p.2) [(0, .sl q 0 L 1 false), (2, .ptr 40 0), (3, .ptr 39 0), (4, .ptr 35 0), (5, .ptr 41 0), (9, iV (sa + (c : Int)))] ∧
      st = ⟨liH y many len ((laO q fm' (nI P) ++ R) ++ h'), n'⟩ ∧ n ≤ n' ∧ K (seen ++ (List.range c).flatMap F) h' ∧ c ≤ N ∧ k = N - c) (N - 0) ?_ ?_))
  · refine ⟨_, 0, h, n, fm, rfl, ⟨rfl, rfl, rfl, rfl, rfl, ?_, trivial⟩, by rw [hA1]; rfl, Nat.le_refl _, by simpa using hK, Nat.zero_le _, rfl⟩
    show iV (s : Int) = iV (sa + ((0 : Nat) : Int))
    rw [show sa + ((0 : Nat) : Int) = (s : Int) by omega]
  · rintro k f0 st ⟨g, c, h', n', fm', rfl, ⟨g0, g2, g3, g4, g5, g9, _⟩, rfl, hn', hK', hle, rfl⟩
    simp only at g0 g2 g3 g4 g5 g9
    rw [← updT_self g0, ← updT_self g2, ← updT_self g3, ← updT_self g4, ← updT_self g5, ← updT_self g9]
    have hlow' := (hlw _ _ hK').1
    obtain ⟨v, hv⟩ : ∃ v, sa + (c : Int) = v := ⟨_, rfl⟩
    rw [hv]
    obtain ⟨A2, hA2⟩ : ∃ a, (laO q fm' (nI P) ++ R) ++ h' = a := ⟨_, rfl⟩
    rw [hA2]
    have hst0 : liH y many len A2 = (41, .cells none false [exV]) :: (40, .cells none false [iV le]) :: (39, .cells none false [.yld y]) :: (35, .cells none false [iV mn]) :: A2 := by unfold liH; rw [hmnn, hle0]
    rw [hst0]
    unfold exV
    refine SW.seq ?_
    refine SW.seqRun tok hO (by cbv <;> rfl) (by trivial) ?_
    refine SW.condS (by cbv <;> rfl) (fun h3 => SW.skip ?_) (fun h3 => SW.exit ?_)
    rotate_left
    · have hgt : ¬ v < mn := by subst hO; simpa [std] using h3
      have hc : c = N := by omega
      refine (show SW _ _ _ _ _ _ from ?_)
      have hfin := hQ0 (.lit (.bool true)) h' n' fm' hn' hlow' (.inl ⟨rfl, by rw [← hc]; exact hK'⟩)
      rw [← List.append_assoc, hA2, hst0] at hfin
      unfold exV at hfin
      refine SW.seqRun tok hO (by cbv <;> rfl) (by trivial) ?_
      exact SW.ret ⟨_, _, rfl, rfl, hfin⟩
    · have hvle : v < mn := by subst hO; simpa [std] using h3
      have hcN : c < N := by omega
      have hvN : v = ((s + c : Nat) : Int) := by omega
      refine (show SW _ _ _ _ _ _ from ?_)
      obtain ⟨r, hr⟩ := range_split (c + 1) N hcN
      have hlenP : (P ++ [s + c]).length = L + 1 := by rw [List.length_append, List.length_singleton, hL]
      have hFc : liE many m (P ++ [s + c]) (s + c + 1) = F c := by rw [hF]
      have hE2 : E = (seen ++ (List.range c).flatMap F) ++ liE many m (P ++ [s + c]) (s + c + 1) ++ (r.flatMap F ++ post) := by
        rw [hE, hr, List.flatMap_append, hsn, hFc]
        simp [List.append_assoc]
      have hinc : O.bin .add .i64 v 1 = ((s + c + 1 : Nat) : Int) := by
        subst hO
        show add64 v 1 = _
        rw [add64_in _ _ (by omega) (by omega)]; omega
      have hq3 := hq (by rw [hP]; simp)
      have hsh : ∀ fm'', laO q fm'' (nI P) = [(q, .cells fm'' false (flatG 1 (intC (zL (nI P))) L))] := fun fm'' => by
        rw [← hL, hP]
        show [(q, AObj.cells fm'' false (flatG 1 (intC (zL (nI (v0 :: p)))) ((nI p).length + 1)))] = _
        rw [nI_len]; rfl
      have hgq2 : ∀ fm'', Hp.get (liH y many len ((laO q fm'' (nI P) ++ R) ++ h')) q = some (.cells fm'' false (flatG 1 (intC (zL (nI P))) L)) := fun fm'' => by
        rw [liH_get (by omega), hsh]
        show Hp.get ((q, _) :: (R ++ h')) q = _
        simp only [Hp.get]
        rw [if_pos trivial]
      have hgq : Hp.get (liH y many len A2) q = some (.cells fm' false (flatG 1 (intC (zL (nI P))) L)) := by rw [← hA2]; exact hgq2 fm'
      have hoth : ∀ fa fb id, id ≠ q → Hp.get (liH y many len ((laO q fa (nI P) ++ R) ++ h')) id = Hp.get (liH y many len ((laO q fb (nI P) ++ R) ++ h')) id := fun fa fb id hne => by
        rw [hsh, hsh]
        show Hp.get ((41, _) :: (40, _) :: (39, _) :: (35, _) :: (q, AObj.cells fa false _) :: (R ++ h')) id = Hp.get ((41, _) :: (40, _) :: (39, _) :: (35, _) :: (q, AObj.cells fb false _) :: (R ++ h')) id
        simp only [Hp.get]
        rw [if_neg (Ne.symm hne), if_neg (Ne.symm hne)]
      obtain ⟨h3', happ, hsub0⟩ := app_co (t := 27) (q := q) (n := n') (L := L) (fm := fm') (fl := zL (nI P)) (h0 := liH y many len A2) (v := v) (ex := true) (by kernel_rfl) hgq (by omega) (by omega) (liH y many len ((laO q (some (fm'.getD q)) (nI P) ++ R) ++ h')) (fun id o ho => by
        refine ⟨hids _ h' n' hn' hlow' id o ho, ?_⟩
        by_cases e : id = q
        · rw [e, hgq2] at ho
          rw [e]
          refine ⟨_, hgq, ?_⟩
          cases ho
          show (if fm' = some (fm'.getD q) ∨ (q == q) = true then AObj.cells (some (fm'.getD q)) false ((flatG 1 (intC (zL (nI P))) L).take L) else _) = _
          rw [if_pos (.inr (by simp)), List.take_of_length_le (by rw [flatG_length, Nat.mul_one]; exact Nat.le_refl _)]
        · refine ⟨o, ?_, ?_⟩
          · rw [← hA2, ← hoth (some (fm'.getD q)) fm' id e]; exact ho
          · rw [show (id == q) = false from beq_eq_false_iff_ne.2 e]
            by_cases e48 : id = 41 ∨ id = 40 ∨ id = 39 ∨ id = 35
            · unfold liH at ho
              simp only [Hp.get] at ho
              rcases e48 with rfl | rfl | rfl | rfl <;> (simp at ho; subst ho; exact Kept.noFam (L := 0) (R := []) (fun _ h => nomatch h) (0, _) List.mem_cons_self _ _ (Nat.zero_le _))
            · rw [liH_get (by omega), hsh] at ho
              have ho2 : Hp.get ((q, AObj.cells (some (fm'.getD q)) false (flatG 1 (intC (zL (nI P))) L)) :: (R ++ h')) id = some o := ho
              simp only [Hp.get] at ho2
              rw [if_neg (fun h => e h.symm)] at ho2
              rcases Hp.app_cases ho2 with h' | ⟨_, h'⟩
              · exact hkept _ (Hp.mem_of_get h') _ _ (by omega)
              · have h6 := (hlow' id o h').2.1
                cases o with
                | cells f1 ro cs =>
                  obtain rfl : f1 = none := h6
                  show (if none = some (fm'.getD q) ∨ false = true then AObj.cells (some (fm'.getD q)) ro (cs.take L) else AObj.cells none ro cs) = _
                  rw [if_neg (by simp)]
                | loop r => rfl
                | dfr => rfl
                | map es clock => rfl
                | iter mid since seen last => rfl)
      obtain ⟨F1, hF1⟩ : ∃ F1, some (fm'.getD q) = F1 := ⟨_, rfl⟩
      rw [hF1] at hsub0
      have hrec := ih (P ++ [s + c]) (s + c + 1) (by rw [hlenP]; omega) (by omega) (seen ++ (List.range c).flatMap F) _ hE2 (n' + 1 + 1) (n' + 1) F1 _ h' (by rw [hlenP]; exact hchild F1 h' (n' + 1 + 1) (by omega) hlow') (fun _ => ⟨by omega, by omega⟩) hK'
      have hrv : laV (n' + 1) (nI (P ++ [s + c])) = .sl (n' + 1) 0 (L + 1) 1 false := by rw [nI_snoc, laV_snoc, nI_len, hL]
      rw [hrv] at hrec
      have hsub : ∀ id o, Hp.get (liH y many len (laO (n' + 1) F1 (nI (P ++ [s + c])) ++ ((laO q F1 (nI P) ++ R) ++ h'))) id = some o → h3'.get id = some o ∧ id < n' + 1 + 1 := fun id o ho => by
        refine hsub0 id o ?_
        rw [nI_snoc, laO_snoc, ← zL_snoc, nI_len, hL, ← hvN] at ho
        simp only [Hp.get]
        by_cases e : n' + 1 = id
        · rw [if_pos e]
          rw [← e, liH_get (by omega)] at ho
          simp only [List.cons_append, List.nil_append, Hp.get] at ho
          rw [if_pos trivial] at ho
          exact ho
        · rw [if_neg e]
          refine liH_sub (fun _ h => ?_) ho
          simp only [List.cons_append, List.nil_append, Hp.get] at h ⊢
          rw [if_neg e] at h
          exact h
      have hg51 : h3'.get 41 = some (.cells none false [exV]) := (hsub 41 _ (by unfold liH; simp only [Hp.get]; rw [if_pos trivial])).1
      have hrec2 := CallW.sub hsub hrec
      rw [hFc, show iV ((s + c + 1 : Nat) : Int) = AV.lit (.int .i64 (O.bin .add .i64 v 1)) by rw [hinc]; rfl] at hrec2
      refine SW.seq (SW.block ?_)
      rw [hst0] at happ
      unfold exV at happ
      have hld : loadA Fz.T h3' 153 (.ptr 41 0) = some (.fn (.func 128) [] [.ptr 40 0, .ptr 39 0, .ptr 35 0, .ptr 41 0]) := by
        have h5 := hg51
        simp only [loadA, ptrOf, cellsAt, h5]
        rfl
      have hld0 : ∀ B : Hp, loadA Fz.T ((n', .cells none false [iV v]) :: (41, .cells none false [.fn (.func 128) [] [.ptr 40 0, .ptr 39 0, .ptr 35 0, .ptr 41 0]]) :: B) 153 (.ptr 41 0) = some (.fn (.func 128) [] [.ptr 40 0, .ptr 39 0, .ptr 35 0, .ptr 41 0]) := fun B => by
        have h5 : Hp.get ((n', .cells none false [iV v]) :: (41, .cells none false [.fn (.func 128) [] [.ptr 40 0, .ptr 39 0, .ptr 35 0, .ptr 41 0]]) :: B) 41 = some (.cells none false [.fn (.func 128) [] [.ptr 40 0, .ptr 39 0, .ptr 35 0, .ptr 41 0]]) := by
          simp only [Hp.get]
          rw [if_neg (by omega), if_pos trivial]
        simp only [loadA, ptrOf, cellsAt, h5]
        rfl
      refine SW.seqRunD tok mixed hO (by kernel_rfl) (by cbv <;> rfl) (by trivial) ?_
      refine AnyE.effK tok hO (by cbv <;> rfl) (by cbv <;> rfl) (by trivial) ?_ ?_
      · exact (by repeat (first | exact trivial | refine And.intro (by first | exact LV.of (hld0 _) | exact hld0 _ | exact lv_of hO (by cbv <;> rfl) (by trivial) | (cbv <;> rfl)) ?_))
      refine AnyE.run tok hO (by kernel_rfl) (by cbv <;> rfl) (by trivial) ?_
      refine AnyE.appK tok (by cbv <;> rfl) (by cbv <;> rfl) happ ?_ ?_
      · exact (by repeat (first | exact trivial | refine And.intro (by first | exact hld | exact lv_of hO (by cbv <;> rfl) (by trivial) | (cbv <;> rfl)) ?_))
      refine AnyE.run tok hO (by kernel_rfl) (by cbv <;> rfl) (by trivial) ?_
      refine AnyE.apply (c := exV) (args := [.sl (n' + 1) 0 (L + 1) 1 false, .lit (.int .i64 (O.bin .add .i64 v 1))]) (by cbv <;> rfl) (by cbv <;> rfl) (show ApplyW Try.prog exV _ _ _ from ⟨en128, hrec2⟩) fun w st' hk => ?_
      obtain ⟨h2, n2, fm2, k1, k4, rfl, k5⟩ := hk
      have hne : ∀ id o, Hp.get (liH y many len ((laO q F1 (nI P) ++ R) ++ h2)) id = some o → Hp.get (liH y many len (laO (n' + 1) fm2 (nI (P ++ [s + c])) ++ ((laO q F1 (nI P) ++ R) ++ h2))) id = some o ∧ id < n2 := fun id o ho => by
        have hlt := hids F1 h2 n2 (by omega) k4 id o ho
        refine ⟨liH_sub (fun e1 h => ?_) ho, hlt⟩
        rw [nI_snoc, laO_snoc]
        show Hp.get ((n' + 1, _) :: _) id = some o
        have hid1 : ¬ n' + 1 = id := fun e => by
          rcases Hp.app_cases h with h' | ⟨_, h'⟩
          · rcases List.mem_append.1 (Hp.mem_of_get h') with h6 | h6
            · have m1 := hlaq F1 _ h6
              have m2 := hq m1.2.1
              simp only at m1
              omega
            · have m1 := hown _ h6
              simp only at m1
              omega
          · have := (k4 _ o h').1
            omega
        simp only [Hp.get]
        rw [if_neg hid1]
        exact h
      have hQf := hQ0 (.lit (.bool false)) h2 n2 F1 (by omega) k4
      obtain ⟨S4, hS4⟩ : ∃ z, liH y many len (laO (n' + 1) fm2 (nI (P ++ [s + c])) ++ ((laO q F1 (nI P) ++ R) ++ h2)) = z := ⟨_, rfl⟩
      rw [hS4] at hne ⊢
      rcases k5 with ⟨rfl, k5⟩ | ⟨rfl, pre, l, post2, k5, k6⟩
      · refine AnyE.run tok hO (by kernel_rfl) (by cbv <;> rfl) (by trivial) ?_
        refine SW.condS (by cbv <;> rfl) (fun h7 => absurd h7 (by decide)) (fun _ => SW.skip ?_)
        refine SW.sub (by rfl) hne ?_
        obtain ⟨A3, hA3⟩ : ∃ a, (laO q F1 (nI P) ++ R) ++ h2 = a := ⟨_, rfl⟩
        rw [hA3]
        refine (show SW _ _ _ _ _ _ from ?_)
        refine SW.run tok hO (by cbv <;> rfl) (by trivial) ?_
        have hinc2 : O.bin .add .i64 v 1 = sa + ((c + 1 : Nat) : Int) := by rw [hinc]; omega
        refine ⟨N - (c + 1), by omega, _, c + 1, h2, n2, F1, rfl, ⟨rfl, rfl, rfl, rfl, rfl, congrArg (fun z => AV.lit (.int .i64 z)) hinc2, trivial⟩, by rw [hA3]; rfl, by omega, ?_, by omega, rfl⟩
        rw [hsn, ← List.append_assoc]; exact k5
      · refine AnyE.run tok hO (by kernel_rfl) (by cbv <;> rfl) (by trivial) ?_
        refine SW.condS (by cbv <;> rfl) (fun _ => ?_) (fun h7 => absurd h7 (by decide))
        refine SW.sub (by rfl) hne ?_
        have hfin := hQf (.inr ⟨rfl, (List.range c).flatMap F ++ pre, l, post2 ++ r.flatMap F, by
          rw [hr, List.flatMap_append, hsn, k5]
          simp only [List.append_assoc, List.cons_append], by rw [← List.append_assoc]; exact k6⟩)
        rw [← List.append_assoc] at hfin
        obtain ⟨A3, hA3⟩ : ∃ a, (laO q F1 (nI P) ++ R) ++ h2 = a := ⟨_, rfl⟩
        rw [hA3] at hfin ⊢
        refine SW.seqRun tok hO (by cbv <;> rfl) (by trivial) ?_
        exact SW.ret ⟨_, _, rfl, rfl, hfin⟩
theorem li_all (hy : y < 38) (hlw : ∀ s h, K s h → LowX 38 h ∧ Hp.get h 35 = none) (hmn : many < 900) (len : Nat) (hsm : len < 900) (step : liStep K stop y E) : ∀ (m : Nat) (p : List Nat) (s : Nat), p.length + m = len → s ≤ many → ∀ (seen post : List (List Nat)), E = seen ++ liE many m p s ++ post → ∀ (n q : Nat) (fm : Option Nat) (R h : Hp), LiI n p.length R h → (p ≠ [] → 42 ≤ q ∧ q < n) → K seen h →
      CallW Try.prog 128 [laV q (nI p), iV (s : Int), .ptr 40 0, .ptr 39 0, .ptr 35 0, .ptr 41 0] ⟨liH y many len (laO q fm (nI p) ++ (R ++ h)), n⟩ (liQ K stop y many len n q R p seen (liE many m p s))
  | 0, [], s, hp, hs, seen, post, hE, n, q, fm, R, h, hI, hq, hK => li_leaf0 hy hlw step len hp hsm s seen post hE n q fm R h hI hq hK
  | 0, v :: p, s, hp, hs, seen, post, hE, n, q, fm, R, h, hI, hq, hK => li_leaf1 hy hlw step len v p hp hsm s seen post hE n q fm R h hI hq hK
  | m + 1, [], s, hp, hs, seen, post, hE, n, q, fm, R, h, hI, hq, hK => li_step0 hy hlw hmn len hsm m (li_all hy hlw hmn len hsm step m) hp s hs seen post hE n q fm R h hI hq hK
  | m + 1, v :: p, s, hp, hs, seen, post, hE, n, q, fm, R, h, hI, hq, hK => li_step1 hy hlw hmn len hsm m (li_all hy hlw hmn len hsm step m) v p hp s hs seen post hE n q fm R h hI hq hK
end
end Go.Fz
set_option linter.unusedVariables false
namespace Go.Fz
open Go.Proofs
set_option maxRecDepth 100000
theorem lists95 (many : Nat) (h : Hp) (n : Nat) : CallW Try.prog 95 [iV (many : Int)] ⟨h, n⟩ (fun v st' => v = .fn (.func 127) [] [.ptr n 0] ∧ st' = ⟨(n, .cells none false [iV (many : Int)]) :: h, n + 1⟩) := by
  obtain ⟨O, hO⟩ : ∃ O : Ar, O = std := ⟨_, rfl⟩
  obtain ⟨mn, hmn⟩ : ∃ mn : Int, (many : Int) = mn := ⟨_, rfl⟩
  rw [hmn]
  refine callW_of_body tok Try.func95 rfl ?_
  refine SW.seqRun tok hO (by cbv <;> rfl) (by trivial) ?_
  refine SW.seqRun tok hO (by cbv <;> rfl) (by trivial) ?_
  exact SW.ret ⟨_, _, rfl, rfl, rfl, rfl⟩
section
variable {K : List (List Nat) → Hp → Prop} {stop : List (List Nat) → List Nat → Hp → Prop} {y many : Nat}
set_option maxHeartbeats 16000000 in
theorem lists127 (hy : y < 38) (hlw : ∀ s h, K s h → (LowX 38 h ∧ Hp.get h 35 = none) ∧ ∀ id o, Hp.get h id = some o → ObjBelow 40 o) (hlS : ∀ s l h, stop s l h → LowX 38 h ∧ Hp.get h 35 = none) (hmn : many < 800) (step : liStep K stop y (risL many)) (h0 : Hp) (hK : K [] h0) (n0 : Nat) (hn0 : n0 ≤ 39) :
    CallW Try.prog 127 [.yld y, .ptr 35 0] ⟨(35, .cells none false [iV (many : Int)]) :: h0, n0⟩ (fun _ st' => ∃ h' n, st' = ⟨h', n⟩ ∧ 39 ≤ n ∧ LowX 38 h' ∧ (K (risL many) h' ∨ ∃ pre l post, risL many = pre ++ l :: post ∧ stop pre l h')) := by
  obtain ⟨O, hO⟩ : ∃ O : Ar, O = std := ⟨_, rfl⟩
  refine CallW.weak (k1 := fun _ st1 => ∃ h', (∀ id o, Hp.get h' id = some o → st1.h.get id = some o) ∧ 39 ≤ st1.n ∧ LowX 38 h' ∧ (K (risL many) h' ∨ ∃ pre l post, risL many = pre ++ l :: post ∧ stop pre l h')) ?_
    (fun v st1 ⟨H', hg, hn, hl, hk⟩ => .inr ⟨.any, ⟨H', st1.n⟩, ⟨.inl rfl, Nat.le_trans hn0 hn, Nat.le_refl _, fun id o ho => ⟨hg id o ho, by
      have := (hl id o ho).1
      show id < st1.n
      omega, .inl rfl⟩⟩, H', st1.n, rfl, hn, hl, hk⟩)
  refine CallW.pad (n := 39) hn0 ?_
  obtain ⟨F, hF⟩ : ∃ F : Nat → List (List Nat), F = fun m => risE many m [] 0 := ⟨_, rfl⟩
  have hsn : ∀ c, (List.range (c + 1)).flatMap F = (List.range c).flatMap F ++ F c := fun c => by rw [List.range_succ, List.flatMap_append]; simp
  have hE : risL many = (List.range (many + 1)).flatMap F := by rw [hF]; rfl
  have hcall := fun (c : Nat) (hc : c ≤ many) (h : Hp) (hKc : K ((List.range c).flatMap F) h) => li_all hy (fun s h k => (hlw s h k).1) (show many < 900 by omega) c (show c < 900 by omega) step c [] 0 (by simp) (Nat.zero_le _) ((List.range c).flatMap F) (((List.range (many + 1)).drop (c + 1)).flatMap F) (by
    have h1 : liE many c [] 0 = F c := by rw [liE_ris c [] 0 (Nat.zero_le _), hF]
    have h2 := List.take_append_drop (c + 1) (List.range (many + 1))
    rw [List.take_range, Nat.min_eq_left (by omega)] at h2
    rw [hE, h1, ← hsn, ← List.flatMap_append, h2]) 42 0 none [] h ⟨Nat.le_refl _, (fun _ h => nomatch h), (fun _ h => nomatch h), (hlw _ _ hKc).1.1⟩ (fun h => absurd rfl h) hKc
  have hFc : ∀ c, liE many c [] 0 = F c := fun c => by rw [liE_ris c [] 0 (Nat.zero_le _), hF]
  obtain ⟨mn, hmnn⟩ : ∃ mn : Int, (many : Int) = mn := ⟨_, rfl⟩
  have hinc0 : O.bin .add .i64 mn 1 = ((many + 1 : Nat) : Int) := by
    subst hO
    show add64 mn 1 = _
    rw [add64_in _ _ (by omega) (by omega)]; omega
  obtain ⟨me, hme⟩ : ∃ me : Int, ((many + 1 : Nat) : Int) = me := ⟨_, rfl⟩
  rw [hmnn]
  refine callW_of_body tok Try.func127 rfl ?_
  refine SW.seqRun tok hO (by cbv <;> rfl) (by trivial) ?_
  refine SW.seqRun tok hO (by cbv <;> rfl) (by trivial) ?_
  refine (SW.block (SW.loopF (fun x : Nat × Hp => ⟨⟨15, getT [(1, .ptr 35 0), (2, .ptr 39 0), (6, iV me), (7, iV x.1)]⟩, []⟩) (fun x => ⟨(39, .cells none false [.yld y]) :: (35, .cells none false [iV mn]) :: x.2, 40⟩) (fun x => many + 1 - x.1) (fun x => x.1 ≤ many + 1 ∧ K ((List.range x.1).flatMap F) x.2) (0, h0)
    (fun _ => rfl) ⟨Nat.zero_le _, by simpa using hK⟩ ⟨rfl, rfl, (fun _ h => nomatch h), fun i => ?_, Nat.le_refl _, Nat.le_refl _, fun id o ho => ⟨ho, ?_, .inl rfl⟩⟩ fun x hx => ?_))
  · exact getT_weak [(1, AV.ptr 35 0), (2, .ptr 39 0), (6, iV me), (7, iV ((0 : Nat) : Int))] (show AllW (40 = 40) 40 _ [(1, AV.ptr 35 0), (2, .ptr 39 0), (6, iV me), (7, iV ((0 : Nat) : Int))] from ⟨⟨rfl, .inl rfl⟩, ⟨rfl, .inl rfl⟩, ⟨congrArg (fun z => AV.lit (.int .i64 z)) (hinc0.trans hme), .inl rfl⟩, ⟨rfl, .inl rfl⟩, trivial⟩).ok i
  · show id < 40
    have hl := (hlw _ _ hK).1.1
    have ho : Hp.get ((39, AObj.cells none false [.yld y]) :: (35, .cells none false [iV mn]) :: h0) id = some o := ho
    simp only [Hp.get] at ho
    split at ho
    · omega
    split at ho
    · omega
    have := (hl id o ho).1
    omega
  · obtain ⟨c, h'⟩ := x
    obtain ⟨hc, hKc⟩ := hx
    simp only at hc hKc ⊢
    refine SW.seqRun tok hO (by cbv <;> rfl) (by trivial) ?_
    refine SW.seq (SW.condS (by cbv <;> rfl) (fun h => SW.skip ?_) (fun h => SW.exit ?_))
    rotate_left
    · have hz : c = many + 1 := by
        have : me ≤ (c : Int) := by subst hO; simpa [std] using h
        omega
      obtain ⟨hl, h45⟩ := (hlw _ _ hKc).1
      refine ⟨_, _, rfl, rfl, h', fun id o ho => ?_, by show 39 ≤ 40; omega, hl, .inl (by rw [hE, ← hz]; exact hKc)⟩
      have := (hl id o ho).1
      have h45' : id ≠ 35 := fun e => by rw [e, h45] at ho; cases ho
      show Hp.get ((39, _) :: (35, _) :: h') id = some o
      simp only [Hp.get]
      rw [if_neg (by omega), if_neg (by omega)]
      exact ho
    · have hlt : c ≤ many := by
        have : (c : Int) < me := by subst hO; simpa [std] using h
        omega
      have hcl := hcall c hlt h' hKc
      have hcl2 : CallW Try.prog 128 [nl3, iV 0, .ptr 40 0, .ptr 39 0, .ptr 35 0, .ptr 41 0] ⟨liH y many c h', 42⟩ _ := hcl
      unfold liH at hcl2
      rw [hmnn] at hcl2
      refine SW.seq (SW.block ?_)
      refine SW.seqRun tok hO (by cbv <;> rfl) (by trivial) ?_
      refine SW.seqRun tok hO (by cbv <;> rfl) (by trivial) ?_
      refine SW.seqRun tok hO (by cbv <;> rfl) (by trivial) ?_
      refine SW.seqRun tok hO (by cbv <;> rfl) (by trivial) ?_
      refine OpsW.apply (c := exV) (args := [nl3, iV 0]) (by cbv <;> rfl) (show ApplyW Try.prog exV _ _ _ from ⟨en128, hcl2⟩) fun w st' hk => ?_
      obtain ⟨h2, n2, fm2, k1, k4, rfl, k5⟩ := hk
      have hst : liH y many c (laO 0 fm2 (nI []) ++ ([] ++ h2)) = (41, .cells none false [exV]) :: (40, .cells none false [iV (c : Int)]) :: (39, .cells none false [.yld y]) :: (35, .cells none false [iV mn]) :: h2 := by rw [← hmnn]; rfl
      rw [hst]
      unfold exV
      rcases k5 with ⟨rfl, k5⟩ | ⟨rfl, pre, l, post, k5, k6⟩
      · refine OpsW.run tok hO (by cbv <;> rfl) (by trivial) ?_
        refine SW.condS (by cbv <;> rfl) (fun h7 => absurd h7 (by decide)) (fun _ => SW.skip ?_)
        refine SW.run tok hO (by cbv <;> rfl) (by trivial) ?_
        have hK2 : K ((List.range (c + 1)).flatMap F) h2 := by rw [hsn, ← hFc c]; exact k5
        refine ⟨(c + 1, h2), by show many + 1 - (c + 1) < many + 1 - c; omega, ⟨by show c + 1 ≤ many + 1; omega, hK2⟩, ⟨rfl, rfl, (fun _ h => nomatch h), fun i => ?_, Nat.le_refl _, by show 40 ≤ n2; omega, fun id o ho => ?_⟩⟩
        · exact getT_weak [(1, AV.ptr 35 0), (2, .ptr 39 0), (6, iV me), (7, iV ((c + 1 : Nat) : Int))] (show AllW (40 = n2) 40 _ [(1, AV.ptr 35 0), (2, .ptr 39 0), (6, iV me), (7, iV ((c + 1 : Nat) : Int))] from ⟨⟨rfl, .inr (Below.ptr (by omega))⟩, ⟨rfl, .inr (Below.ptr (by omega))⟩, ⟨rfl, .inr Below.lit⟩, ⟨inc_ok hO (by omega), .inr Below.lit⟩, trivial⟩).ok i
        · have ho : Hp.get ((39, AObj.cells none false [.yld y]) :: (35, .cells none false [iV mn]) :: h2) id = some o := ho
          obtain ⟨⟨hl, _⟩, hob⟩ := hlw _ _ hK2
          simp only [Hp.get] at ho
          by_cases e1 : 39 = id
          · rw [if_pos e1] at ho; cases ho; subst e1
            exact ⟨rfl, by show 39 < 40; omega, .inr ⟨AllB.ok ⟨Below.yld (show y < 40 by omega), trivial⟩, fun _ h => nomatch h⟩⟩
          rw [if_neg e1] at ho
          by_cases e2 : 35 = id
          · rw [if_pos e2] at ho; cases ho; subst e2
            exact ⟨rfl, by show 35 < 40; omega, .inr ⟨AllB.ok ⟨Below.lit, trivial⟩, fun _ h => nomatch h⟩⟩
          rw [if_neg e2] at ho
          have := (hl id o ho).1
          refine ⟨?_, by show id < 40; omega, .inr (hob id o ho)⟩
          show Hp.get ((41, _) :: (40, _) :: (39, _) :: (35, _) :: h2) id = some o
          simp only [Hp.get]
          rw [if_neg (by omega), if_neg (by omega), if_neg (by omega), if_neg (by omega)]
          exact ho
      · refine OpsW.run tok hO (by cbv <;> rfl) (by trivial) ?_
        refine SW.condS (by cbv <;> rfl) (fun _ => ?_) (fun h7 => absurd h7 (by decide))
        obtain ⟨hl, h45⟩ := hlS _ _ _ k6
        obtain ⟨r, hr⟩ := range_split (c + 1) (many + 1) (by omega)
        refine SW.ret ⟨_, _, rfl, rfl, h2, fun id o ho => ?_, by show 39 ≤ n2; omega, hl, .inr ⟨(List.range c).flatMap F ++ pre, l, post ++ r.flatMap F, ?_, k6⟩⟩
        · have := (hl id o ho).1
          have h45' : id ≠ 35 := fun e => by rw [e, h45] at ho; cases ho
          show Hp.get ((41, _) :: (40, _) :: (39, _) :: (35, _) :: h2) id = some o
          simp only [Hp.get]
          rw [if_neg (by omega), if_neg (by omega), if_neg (by omega), if_neg (by omega)]
          exact ho
        · rw [hE, hr, List.flatMap_append, hsn, ← hFc c, k5]
          simp only [List.append_assoc, List.cons_append]
end
end Go.Fz
set_option linter.unusedVariables false
namespace Go.Fz
open Go.Proofs
set_option maxRecDepth 100000
def setK (K : Nat → Int) (b : Nat) (v : Int) (i : Nat) : Int := if i = b then v else K i
theorem hkups {O : Ar} (hO : O = std) (K : Nat → Int) (b : Nat) (v : Int) (j : Nat) : O.ups j b v (K j) = setK K b v j := by
  subst hO
  unfold setK
  by_cases h : j = b
  · subst h; simp [std]
  · rw [if_neg h]
    simp only [std]
    first | rw [if_neg h] | rw [if_neg (Ne.symm h)]
set_option maxHeartbeats 8000000 in
theorem set90 (f : FarmD) {N : Nat} {gg : Nat → Nat → AV} (htr : Below 0 (.isl N 1 false gg)) (K : Nat → Int) (b : Nat) (hb : b < 8) (v : Int) : Pure Try.prog 90 [workV f (.isl N 1 false gg) K, iV (b : Int), iV v] (workV f (.isl N 1 false gg) (setK K b v)) := by
  obtain ⟨O, hO⟩ : ∃ O : Ar, O = std := ⟨_, rfl⟩
  have hnat : ∀ i : Nat, O.nat (Int.ofNat i) = i := fun i => by subst hO; rfl
  have hk := hkups hO K b v
  refine pure_of_body tok 3 Try.func90 en90 rfl ⟨workV_below f _ _ htr, Below.lit, Below.lit, trivial⟩ (workV_below f _ _ htr) ?_
  refine SW.seqRun tok hO (by cbv <;> rfl) (by trivial) ?_
  refine SW.seqRun tok hO (by cbv <;> rfl) ?_ ?_
  · exact ⟨by show O.nat (Int.ofNat b) < 8; rw [hnat]; exact hb, Int.natCast_nonneg b, by show (b : Int) < ((8 : Nat) : Int); omega⟩
  refine SW.seqRun tok hO (by cbv <;> rfl) (by trivial) ?_
  refine SW.ret ⟨_, _, rfl, rfl, ?_⟩
  show Eqv (.agg [springsV f, bedsV f, looksV f, .isl N 1 false gg, iV (O.ups 0 (O.nat (Int.ofNat b)) v (K 0)), iV (O.ups 1 (O.nat (Int.ofNat b)) v (K 1)), iV (O.ups 2 (O.nat (Int.ofNat b)) v (K 2)), iV (O.ups 3 (O.nat (Int.ofNat b)) v (K 3)), iV (O.ups 4 (O.nat (Int.ofNat b)) v (K 4)), iV (O.ups 5 (O.nat (Int.ofNat b)) v (K 5)), iV (O.ups 6 (O.nat (Int.ofNat b)) v (K 6)), iV (O.ups 7 (O.nat (Int.ofNat b)) v (K 7))]) _
  rw [hnat, hk, hk, hk, hk, hk, hk, hk, hk]
  exact Eqv.refl _
def FarmD.movK (f : FarmD) (l : List Nat) (K : Nat → Int) : Nat → Int := l.foldl (fun K b => setK K b (f.need b)) K
theorem FarmD.movK_snoc (f : FarmD) (l : List Nat) (b : Nat) (K : Nat → Int) : f.movK (l ++ [b]) K = setK (f.movK l K) b (f.need b) := by
  unfold FarmD.movK; rw [List.foldl_append]; rfl
set_option maxHeartbeats 8000000 in
theorem moved98 (f : FarmD) (hnb : f.nb ≤ 8) {N : Nat} {gg : Nat → Nat → AV} (htr : Below 0 (.isl N 1 false gg)) (K : Nat → Int) (l : List Nat) (hl : ∀ b ∈ l, b < f.nb) (hlen : l.length < 1000) : Pure Try.prog 98 [workV f (.isl N 1 false gg) K, zV (nI l)] (workV f (.isl N 1 false gg) (f.movK l K)) := by
  obtain ⟨O, hO⟩ : ∃ O : Ar, O = std := ⟨_, rfl⟩
  have hnat : ∀ i : Nat, O.nat (Int.ofNat i) = i := fun i => by subst hO; rfl
  have hz : ∀ i, i < l.length → zL (nI l) i = ((l.getD i 0 : Nat) : Int) ∧ l.getD i 0 < f.nb ∧ l.take (i + 1) = l.take i ++ [l.getD i 0] := fun i hi => by
    refine ⟨?_, ?_, ?_⟩
    · unfold zL nI
      rw [List.getD_eq_getElem?_getD, List.getD_eq_getElem?_getD, List.getElem?_map, List.getElem?_eq_getElem hi]; rfl
    · rw [List.getD_eq_getElem?_getD, List.getElem?_eq_getElem hi]; exact hl _ (List.getElem_mem hi)
    · rw [List.take_add_one, List.getD_eq_getElem?_getD, List.getElem?_eq_getElem hi]; rfl
  have hset := fun (K : Nat → Int) (b : Nat) (hb : b < f.nb) => set90 f htr K b (by omega) (f.need b)
  have hfin : f.movK l K = f.movK (l.take l.length) K := by rw [List.take_length]
  have hzv : zV (nI l) = intsV l.length false (zL (nI l)) := by unfold zV; rw [nI_len]
  rw [hfin, hzv]
  obtain ⟨FL, hFL⟩ : ∃ fl, zL (nI l) = fl := ⟨_, rfl⟩
  obtain ⟨M, hM⟩ : ∃ m, l.length = m := ⟨_, rfl⟩
  rw [hFL] at hz ⊢
  rw [hM] at hz hlen ⊢
  have hcl : ∀ K, ∀ a ∈ workC f (.isl N 1 false gg) K, Below 2 a := fun K => workC_below' f 2 _ K htr
  refine pure_of_body tok 3 Try.func98 en98 rfl ⟨workV_below f _ _ htr, intsV_below _ _ _, trivial⟩ (workV_below f _ _ htr) ?_
  refine SW.seqRun tok hO (by cbv <;> rfl) (by trivial) ?_
  refine SW.seq ?_
  refine SW.seqRun tok hO (by cbv <;> rfl) (by trivial) ?_
  refine (SW.block (SW.loopF (fun i : Nat => ⟨⟨25, getT [(2, .ptr 0 0), (4, .ptr 1 0), (7, intsV M false FL), (8, iV M), (9, iV i)]⟩, []⟩) (fun i => ⟨[(1, .cells none false workC0), (0, .cells none false (workC f (.isl N 1 false gg) (f.movK (l.take i) K)))], 2⟩) (fun i => M - i) (fun i => i ≤ M) 0
    (fun _ => rfl) (Nat.zero_le _) (Weak.by rfl rfl (by simp) (Nat.le_refl _) (Nat.le_refl _) ⟨⟨rfl, .inl rfl⟩, ⟨rfl, .inl rfl⟩, ⟨rfl, .inl rfl⟩, ⟨rfl, .inl rfl⟩, ⟨rfl, .inl rfl⟩, trivial⟩ ⟨⟨rfl, by show 1 < 2; omega, .inl rfl⟩, ⟨rfl, by show 0 < 2; omega, .inl rfl⟩, trivial⟩) fun i hi => ?_))
  obtain ⟨K1, hK1⟩ : ∃ k, f.movK (l.take i) K = k := ⟨_, rfl⟩
  rw [hK1]
  refine SW.seqRun tok hO (by cbv <;> rfl) (by trivial) ?_
  refine SW.seq (SW.condS (by cbv <;> rfl) (fun h => SW.skip ?_) (fun h => SW.exit ?_))
  · have hlt : i < M := by
      have : (i : Int) < (M : Int) := by subst hO; simpa [std] using h
      omega
    obtain ⟨h1, h2, h3⟩ := hz i hlt
    obtain ⟨b, hb⟩ : ∃ b, l.getD i 0 = b := ⟨_, rfl⟩
    rw [hb] at h1 h2 h3
    have hs1 := hset K1 b h2
    have hv1 : FL (O.nat (Int.ofNat i)) = (b : Int) := by rw [hnat]; exact h1
    have hv2 : f.need (O.nat (FL (O.nat (Int.ofNat i)))) = f.need b := by rw [hv1]; rw [show O.nat (b : Int) = b from hnat b]
    have hK2 : f.movK (l.take (i + 1)) K = setK K1 b (f.need b) := by rw [h3, f.movK_snoc, hK1]
    rw [← hv1, ← hv2] at hs1
    rw [← hv2] at hK2
    obtain ⟨K2, hK2'⟩ : ∃ k, setK K1 b (f.need (O.nat (FL (O.nat (Int.ofNat i))))) = k := ⟨_, rfl⟩
    rw [hK2'] at hs1 hK2
    refine SW.seq (SW.block ?_)
    refine SW.seqRun tok hO (by cbv <;> rfl) ?_ ?_
    · exact ⟨Int.natCast_nonneg i, Int.ofNat_lt.2 hlt⟩
    refine SW.runD tok mixed hO (by rfl) (by cbv <;> rfl) ?_ ?_
    · exact ⟨by show (0 : Int) ≤ FL (O.nat (Int.ofNat i)); rw [hv1]; exact Int.natCast_nonneg b, by show FL (O.nat (Int.ofNat i)) < (f.nb : Int); rw [hv1]; omega⟩
    refine AnyE.callP hs1 (by cbv <;> rfl) (by cbv <;> rfl) ?_
    refine AnyE.run tok hO (by rfl) (by cbv <;> rfl) (by trivial) ?_
    refine AnyE.eff tok hO (by cbv <;> rfl) (by cbv <;> rfl) (by trivial) ?_
    refine AnyE.done (by rfl) ?_
    refine SW.run tok hO (by cbv <;> rfl) (by trivial) ?_
    refine ⟨i + 1, by omega, hlt, ?_⟩
    rw [hK2]
    exact Weak.by rfl rfl (by simp) (Nat.le_refl _) (by show 2 ≤ 2; omega) ⟨⟨rfl, .inl rfl⟩, ⟨rfl, .inl rfl⟩, ⟨rfl, .inl rfl⟩, ⟨rfl, .inl rfl⟩, ⟨inc_ok hO (by omega), .inl rfl⟩, trivial⟩ ⟨⟨rfl, by show 1 < 2; omega, .inl rfl⟩, ⟨rfl, by show 0 < 2; omega, .inl rfl⟩, trivial⟩
  · have hz : i = M := by
      have : (M : Int) ≤ (i : Int) := by subst hO; simpa [std] using h
      omega
    subst hz
    rw [hK1]
    refine (show SW _ _ _ _ _ _ from ?_)
    refine SW.seqRun tok hO (by cbv <;> rfl) (by trivial) ?_
    exact SW.ret ⟨_, _, rfl, rfl, Eqv.of rfl⟩
end Go.Fz
set_option linter.unusedVariables false
namespace Go.Fz
open Go.Proofs
set_option maxRecDepth 100000
set_option maxHeartbeats 8000000 in
theorem isFed91 (f : FarmD) (W : Wat) (b : Nat) (hb : b < f.nb) (hnb : f.nb ≤ 8) : Pure Try.prog 91 [farmV f, watersV W, iV (b : Int)] (.sb (decide (f.need b ≤ W b 1))) := by
  obtain ⟨O, hO⟩ : ∃ O : Ar, O = std := ⟨_, rfl⟩
  have hnat : ∀ i : Nat, O.nat (Int.ofNat i) = i := fun i => by subst hO; rfl
  have hsel : O.sel [W 0 1, W 1 1, W 2 1, W 3 1, W 4 1, W 5 1, W 6 1, W 7 1] (O.nat (Int.ofNat b)) = W b 1 := by
    rw [hnat]; subst hO; exact sel8 (fun j => W j 1) b (by omega)
  have hnd : f.need (O.nat (Int.ofNat b)) = f.need b := by rw [hnat]
  refine pure_of_body tok 3 Try.func91 en91 rfl ⟨farmV_below f, watersV_below W, Below.lit, trivial⟩ Below.sb ?_
  refine SW.seqRun tok hO (by cbv <;> rfl) (by trivial) ?_
  refine SW.seqRunD tok mixed hO (by rfl) (by cbv <;> rfl) ?_ ?_
  · exact ⟨⟨Int.natCast_nonneg b, Int.ofNat_lt.2 hb⟩, by show O.nat (Int.ofNat b) < 8; rw [hnat]; omega, Int.natCast_nonneg b, by show (b : Int) < ((8 : Nat) : Int); omega⟩
  refine AnyE.dec tok hO (by rfl) (by cbv <;> rfl) (by trivial) (fun h1 => ?_) (fun h1 => ?_)
  · have hge : f.need b ≤ W b 1 := by rw [← hsel, ← hnd]; subst hO; simpa [std] using h1
    refine AnyE.run tok hO (by rfl) (by cbv <;> rfl) (by trivial) ?_
    exact SW.ret ⟨_, _, rfl, rfl, Eqv.bool (decide_eq_true hge).symm⟩
  · have hge : ¬ f.need b ≤ W b 1 := by rw [← hsel, ← hnd]; subst hO; simpa [std] using h1
    refine AnyE.run tok hO (by rfl) (by cbv <;> rfl) (by trivial) ?_
    exact SW.ret ⟨_, _, rfl, rfl, Eqv.bool (decide_eq_false hge).symm⟩
theorem CallW.keep {P : Program} {g : FuncId} {args : List AV} {h : Hp} {n : Nat} {r : AV} (hr : Below 0 r) (hb : ∀ id o, Hp.get h id = some o → id < n ∧ ObjBelow n o) (hc : CallW P g args ⟨h, n⟩ (fun v st1 => v = r ∧ n ≤ st1.n ∧ ∀ id o, Hp.get h id = some o → st1.h.get id = some o)) : CallW P g args ⟨h, n⟩ (fun v st' => v = r ∧ st' = ⟨h, n⟩) :=
  CallW.weak hc fun v st1 ⟨h1, h2, h3⟩ => .inr ⟨v, ⟨h, n⟩, ⟨.inr ⟨rfl, .inr (by rw [h1]; exact Below.up (m := 0) hr)⟩, Nat.le_refl _, h2, fun id o ho => ⟨h3 id o ho, (hb id o ho).1, .inr (hb id o ho).2⟩⟩, h1, rfl⟩
theorem CallW.res {P : Program} {g : FuncId} {args : List AV} {st : St} {a b : AV} {Q : St → Prop} (h : CallW P g args st (fun v st' => v = a ∧ Q st')) (he : Eqv a b) : CallW P g args st (fun v st' => v = b ∧ Q st') := fun φ w cargs n h1 h2 =>
  (h φ w cargs n h1 h2).mono fun e w' ⟨v, cv, st', φ', he', ⟨hv, hs⟩, hr, hx, hrel, hf⟩ => ⟨b, cv, st', φ', he', ⟨rfl, hs⟩, he _ _ (by rw [← hv]; exact hr), hx, hrel, hf⟩
set_option maxHeartbeats 8000000 in
theorem each115S (f : FarmD) (h : Hp) (n0 : Nat) (hb : ∀ id o, Hp.get h id = some o → id < n0 ∧ ObjBelow n0 o) (g0 : FuncId) (he : Enters Try.prog g0) (caps : List AV) (p : Nat → Bool) (hn : f.nb < 1000)
    (hp : ∀ i, i < f.nb → ∀ n', n0 ≤ n' → CallW Try.prog g0 ([iV (i : Int), bedV f i] ++ caps) ⟨h, n'⟩ (fun v st' => v = .sb (p i) ∧ st' = ⟨h, n'⟩)) :
    CallW Try.prog 115 [bedsV f, .fn (.func g0) [] caps] ⟨h, n0⟩ (fun v st' => v = .lit (.bool (allN f.nb p)) ∧ st' = ⟨h, n0⟩) := by
  obtain ⟨O, hO⟩ : ∃ O : Ar, O = std := ⟨_, rfl⟩
  have hnat : ∀ i : Nat, O.nat (Int.ofNat i) = i := fun i => by subst hO; rfl
  refine CallW.keep Below.lit hb ?_
  refine callW_of_body tok Try.func115 rfl ?_
  refine SW.seqRun tok hO (by cbv <;> rfl) (by trivial) ?_
  refine SW.seq ?_
  refine SW.seqRun tok hO (by cbv <;> rfl) (by trivial) ?_
  refine (SW.block (SW.loop (fun k f0 st' => ∃ (g : Nat → AV) (c n' : Nat), f0 = ⟨⟨20, g⟩, []⟩ ∧ AllP (fun p => g p.1 = p.2) [(1, .fn (.func g0) [] caps), (7, bedsV f), (8, iV f.nb), (9, iV c)] ∧ st' = ⟨h, n'⟩ ∧ n0 ≤ n' ∧ (∀ j, j < c → p j = true) ∧ c ≤ f.nb ∧ k = f.nb - c) (f.nb - 0) ?_ ?_))
  · exact ⟨_, 0, n0, rfl, ⟨rfl, rfl, rfl, rfl, trivial⟩, rfl, Nat.le_refl _, (fun j hj => absurd hj (Nat.not_lt_zero j)), Nat.zero_le _, rfl⟩
  · rintro k f0 st' ⟨g, c, n', rfl, ⟨g1, g7, g8, g9, _⟩, rfl, hn', hall, hle, rfl⟩
    simp only at g1 g7 g8 g9
    rw [← updT_self g1, ← updT_self g7, ← updT_self g8, ← updT_self g9]
    refine SW.seqRun tok hO (by cbv <;> rfl) (by trivial) ?_
    refine SW.seq (SW.condS (by cbv <;> rfl) (fun h3 => SW.skip ?_) (fun h3 => SW.exit ?_))
    · have hlt : c < f.nb := by
        have : (c : Int) < (f.nb : Int) := by subst hO; simpa [std] using h3
        omega
      refine SW.seq (SW.block ?_)
      refine SW.seqRun tok hO (by cbv <;> rfl) ?_ ?_
      · exact ⟨Int.natCast_nonneg c, Int.ofNat_lt.2 hlt⟩
      refine (show SW Try.prog none _ _ _ ⟨(n', .cells none false [iV (f.need (O.nat (Int.ofNat c))), iV (f.notch (O.nat (Int.ofNat c))), iV (f.down (O.nat (Int.ofNat c)))]) :: h, n' + 1⟩ from ?_)
      have hc := hp c hlt (n' + 1) (by omega)
      obtain ⟨B, hB⟩ : ∃ B, p c = B := ⟨_, rfl⟩
      rw [hB] at hc
      rw [show bedV f c = bedV f (O.nat (Int.ofNat c)) by rw [hnat]] at hc
      replace hc : CallW Try.prog g0 (iV (c : Int) :: .agg [iV (f.need (O.nat (Int.ofNat c))), iV (f.notch (O.nat (Int.ofNat c))), iV (f.down (O.nat (Int.ofNat c)))] :: caps) ⟨h, n' + 1⟩ (fun v st'' => v = .sb B ∧ st'' = ⟨h, n' + 1⟩) := hc
      have hc := CallW.sub (h1 := (n', .cells none false [iV (f.need (O.nat (Int.ofNat c))), iV (f.notch (O.nat (Int.ofNat c))), iV (f.down (O.nat (Int.ofNat c)))]) :: h) (fun id o ho => by
        have := (hb id o ho).1
        refine ⟨?_, by omega⟩
        simp only [Hp.get]
        rw [if_neg (by omega)]
        exact ho) hc
      refine SW.seq (SW.runN tok hO 3 (by cbv <;> rfl) (by trivial) ?_)
      refine OpsW.callS he hc (by cbv <;> rfl) fun r st'' hk => ?_
      obtain ⟨rfl, rfl⟩ := hk
      refine OpsW.run tok hO (by cbv <;> rfl) (by trivial) ?_
      refine SW.condS (by cbv <;> rfl) (fun h4 => ?_) (fun h4 => SW.skip ?_)
      · have hBf : B = false := by subst hO; simpa [std] using h4
        refine SW.seqRun tok hO (by cbv <;> rfl) (by trivial) ?_
        exact SW.ret ⟨_, _, rfl, rfl, by rw [allN_false hlt (hB.trans hBf)]; rfl, by show n0 ≤ n' + 1; omega, fun id o ho => ho⟩
      · have hBt : B = true := by subst hO; simpa [std] using h4
        refine SW.run tok hO (by cbv <;> rfl) (by trivial) ?_
        refine ⟨f.nb - (c + 1), by omega, _, c + 1, n' + 1, rfl, ⟨rfl, rfl, rfl, inc_ok hO (by omega), trivial⟩, rfl, by omega, fun j hj => ?_, by omega, rfl⟩
        rcases Nat.lt_succ_iff_lt_or_eq.1 hj with hj | rfl
        · exact hall j hj
        · exact hB.trans hBt
    · have hz : c = f.nb := by
        have : (f.nb : Int) ≤ (c : Int) := by subst hO; simpa [std] using h3
        omega
      refine SW.seqRun tok hO (by cbv <;> rfl) (by trivial) ?_
      have ha : allN f.nb p = true := by simp only [allN, decide_eq_true_eq]; rw [← hz]; exact hall
      exact SW.ret ⟨_, _, rfl, rfl, by rw [ha]; rfl, hn', fun id o ho => ho⟩
def FarmD.allFed (f : FarmD) (K : Nat → Int) (l : List Int) : Bool := allN f.nb fun i => decide (f.need i ≤ playF f K (zL l) i 1)
theorem ob_cells {n : Nat} {cs : List AV} (h : ∀ a ∈ cs, Below 0 a) : ObjBelow n (.cells none false cs) := ⟨fun a ha => Below.up (m := 0) (h a ha), fun _ h => nomatch h⟩
set_option maxHeartbeats 4000000 in
theorem fed133 (f : FarmD) (hnb : f.nb ≤ 8) {N : Nat} {gg : Nat → Nat → AV} (htr : Below 0 (.isl N 1 false gg)) (K : Nat → Int) (W : Wat) (i : Nat) (hi : i < f.nb) (n : Nat) (hn : 2 ≤ n) : CallW Try.prog 133 ([iV (i : Int), bedV f i] ++ [.ptr 0 0, .ptr 1 0]) ⟨[(1, .cells none false (cells24 W)), (0, .cells none false (workC f (.isl N 1 false gg) K))], n⟩ (fun v st' => v = .sb (decide (f.need i ≤ W i 1)) ∧ st' = ⟨[(1, .cells none false (cells24 W)), (0, .cells none false (workC f (.isl N 1 false gg) K))], n⟩) := by
  obtain ⟨O, hO⟩ : ∃ O : Ar, O = std := ⟨_, rfl⟩
  have e1 := isFed91 f W i hi hnb
  generalize decide (f.need i ≤ W i 1) = Q at e1 ⊢
  refine CallW.keep Below.sb (fun id o ho => ?_) ?_
  · have := Hp.mem_of_get ho
    simp only [List.mem_cons, List.not_mem_nil, or_false, Prod.mk.injEq] at this
    rcases this with ⟨rfl, rfl⟩ | ⟨rfl, rfl⟩
    · exact ⟨by omega, ob_cells (cells24_below 0 W)⟩
    · exact ⟨by omega, ob_cells (workC_below' f 0 _ K htr)⟩
  · have hsub : ∀ x, ∀ id o, Hp.get [(1, AObj.cells none false (cells24 W)), (0, .cells none false (workC f (.isl N 1 false gg) K))] id = some o → Hp.get ((n, x) :: [(1, AObj.cells none false (cells24 W)), (0, .cells none false (workC f (.isl N 1 false gg) K))]) id = some o := fun x id o ho => by
      have := Hp.mem_of_get ho
      simp only [List.mem_cons, List.not_mem_nil, or_false, Prod.mk.injEq] at this
      show (if n = id then some x else _) = some o
      rw [if_neg (by omega)]
      exact ho
    have hld1 : ∀ x, loadA Fz.T ((n, x) :: [(1, AObj.cells none false (cells24 W)), (0, .cells none false (workC f (.isl N 1 false gg) K))]) 38 (.ptr 0 0) = some (farmV f) := fun x => by
      simp only [loadA, ptrOf, cellsAt, hsub x 0 _ rfl]
      rfl
    have hld2 : ∀ x, loadA Fz.T ((n, x) :: [(1, AObj.cells none false (cells24 W)), (0, .cells none false (workC f (.isl N 1 false gg) K))]) 121 (.ptr 1 0) = some (watersV W) := fun x => by
      simp only [loadA, ptrOf, cellsAt, hsub x 1 _ rfl]
      rfl
    refine callW_of_body tok Try.func133 rfl ?_
    refine SW.seqRun tok hO (by cbv <;> rfl) (by trivial) ?_
    refine SW.seq (SW.runN tok hO 1 (by cbv <;> rfl) (by trivial) ?_)
    refine OpsW.ldI tok (by cbv <;> rfl) (hld1 _) ?_
    refine OpsW.ldI tok (by cbv <;> rfl) (hld2 _) ?_
    refine OpsW.run tok hO (by cbv <;> rfl) (by trivial) ?_
    refine OpsW.callP e1 (by cbv <;> rfl) ?_
    refine OpsW.run tok hO (by cbv <;> rfl) (by trivial) ?_
    exact SW.ret ⟨_, _, rfl, rfl, rfl, by show n ≤ n + 1; omega, fun id o ho => hsub _ id o ho⟩
set_option maxHeartbeats 8000000 in
theorem all132 {f : FarmD} (g : f.Good) {N : Nat} {gg : Nat → Nat → AV} (htr : Below 0 (.isl N 1 false gg)) (K : Nat → Int) (l : List Int) (hl : l.length = f.ns) (j : Int) : CallW Try.prog 132 ([iV j, zV l] ++ [.ptr 0 0]) ⟨[(0, .cells none false (workC f (.isl N 1 false gg) K))], 1⟩ (fun v st' => v = .sb (f.allFed K l) ∧ st' = ⟨[(0, .cells none false (workC f (.isl N 1 false gg) K))], 1⟩) := by
  obtain ⟨O, hO⟩ : ∃ O : Ar, O = std := ⟨_, rfl⟩
  have hnb := g.nb
  have e1 := play68 g (m := N) (ex' := false) (h := gg) htr K hl
  have hQ : f.allFed K l = allN f.nb fun i => decide (f.need i ≤ playF f K (zL l) i 1) := rfl
  have hcw := workC_below' f 0 (.isl N 1 false gg) K htr
  obtain ⟨W, hW⟩ : ∃ W, playF f K (zL l) = W := ⟨_, rfl⟩
  rw [hW] at e1 hQ
  have e2 := each115S f [(1, .cells none false (cells24 W)), (0, .cells none false (workC f (.isl N 1 false gg) K))] 2 (fun id o ho => by
    have := Hp.mem_of_get ho
    simp only [List.mem_cons, List.not_mem_nil, or_false, Prod.mk.injEq] at this
    rcases this with ⟨rfl, rfl⟩ | ⟨rfl, rfl⟩
    · exact ⟨by omega, ob_cells (cells24_below 0 W)⟩
    · exact ⟨by omega, ob_cells hcw⟩) 133 en133 [.ptr 0 0, .ptr 1 0] (fun i => decide (f.need i ≤ W i 1)) (by omega) (fun i hi n' hn' => fed133 f hnb htr K W i hi n' hn')
  rw [← hQ] at e2
  generalize f.allFed K l = Q at e2 ⊢
  refine CallW.res (a := .lit (.bool Q)) ?_ (Eqv.litB Q)
  refine CallW.keep Below.lit (fun id o ho => ?_) ?_
  · have := Hp.mem_of_get ho
    simp only [List.mem_cons, List.not_mem_nil, or_false, Prod.mk.injEq] at this
    obtain ⟨rfl, rfl⟩ := this
    exact ⟨by omega, ob_cells hcw⟩
  · obtain ⟨M, FL, hZ⟩ : ∃ M fl, zV l = intsV M false fl := ⟨_, _, rfl⟩
    rw [hZ] at e1 ⊢
    refine callW_of_body tok Try.func132 rfl ?_
    refine SW.seqRun tok hO (by cbv <;> rfl) (by trivial) ?_
    refine SW.seqRun tok hO (by cbv <;> rfl) (by trivial) ?_
    refine OpsW.callP e1 (by cbv <;> rfl) ?_
    refine OpsW.run tok hO (by cbv <;> rfl) (by trivial) ?_
    refine SW.seqRun tok hO (by cbv <;> rfl) (by trivial) ?_
    refine OpsW.callS en115 e2 (by cbv <;> rfl) fun r st' hk => ?_
    obtain ⟨rfl, rfl⟩ := hk
    refine OpsW.run tok hO (by cbv <;> rfl) (by trivial) ?_
    refine SW.ret ⟨_, _, rfl, rfl, rfl, by show 1 ≤ 2; omega, fun id o ho => ?_⟩
    have := Hp.mem_of_get ho
    simp only [List.mem_cons, List.not_mem_nil, or_false, Prod.mk.injEq] at this
    obtain ⟨rfl, rfl⟩ := this
    rfl
theorem allN_s {s : List (List Int)} {p : List Int → Bool} : allN s.length (fun i => p (s.getD i [])) = s.all p := by
  rw [Bool.eq_iff_iff, List.all_eq_true]
  simp only [allN, decide_eq_true_eq]
  constructor
  · intro h l hl
    obtain ⟨i, hi, e⟩ := List.getElem_of_mem hl
    have := h i hi
    rw [List.getD_eq_getElem?_getD, List.getElem?_eq_getElem hi, Option.getD_some, e] at this
    exact this
  · intro h i hi
    exact h _ (getD_mem hi)
set_option maxHeartbeats 4000000 in
theorem feedsAll99 {f : FarmD} (g : f.Good) (s : List (List Int)) (hs : s.length < 1000000) (hch : ∀ l ∈ s, l.length = f.ns) (K : Nat → Int) : Pure Try.prog 99 [workV f (llV s) K] (.sb (s.all (f.allFed K))) := by
  obtain ⟨O, hO⟩ : ∃ O : Ar, O = std := ⟨_, rfl⟩
  have hlb := llV_below s
  have e1 := each125S s.length (gT s) ⟨[(0, .cells none false (workC f (llV s) K))], 1⟩ 132 en132 [.ptr 0 0] (fun i => f.allFed K (s.getD i [])) hs (fun i hi => all132 g hlb K (s.getD i []) (hch _ (getD_mem hi)) i)
  rw [allN_s] at e1
  generalize s.all (f.allFed K) = Q at e1 ⊢
  obtain ⟨N, gg, hll⟩ : ∃ N g, llV s = .isl N 1 false g := ⟨_, _, rfl⟩
  change CallW Try.prog 125 [llV s, .fn (.func 132) [] [.ptr 0 0]] _ _ at e1
  rw [hll] at e1 hlb ⊢
  refine pure_of_body tok 3 Try.func99 en99 rfl ⟨workV_below f _ _ hlb, trivial⟩ Below.sb ?_
  refine SW.seqRun tok hO (by cbv <;> rfl) (by trivial) ?_
  refine SW.seqRun tok hO (by cbv <;> rfl) (by trivial) ?_
  refine OpsW.callS en125 e1 (by cbv <;> rfl) fun r st' hk => ?_
  obtain ⟨rfl, rfl⟩ := hk
  refine OpsW.run tok hO (by cbv <;> rfl) (by trivial) ?_
  exact SW.ret ⟨_, _, rfl, rfl, Eqv.bool rfl⟩
set_option maxHeartbeats 4000000 in
theorem fed126 {f : FarmD} (g : f.Good) {N : Nat} {gg : Nat → Nat → AV} (htr : Below 0 (.isl N 1 false gg)) (K : Nat → Int) (b : Nat) (hb : b < f.nb) (l : List Int) (hl : l.length = f.ns) (j : Int) : CallW Try.prog 126 ([iV j, zV l] ++ [.ptr 0 0, .ptr 1 0]) ⟨[(1, .cells none false [iV (b : Int)]), (0, .cells none false (workC f (.isl N 1 false gg) K))], 2⟩ (fun v st' => v = .sb (decide (f.need b ≤ playF f K (zL l) b 1)) ∧ st' = ⟨[(1, .cells none false [iV (b : Int)]), (0, .cells none false (workC f (.isl N 1 false gg) K))], 2⟩) := by
  obtain ⟨O, hO⟩ : ∃ O : Ar, O = std := ⟨_, rfl⟩
  have e1 := play68 g (m := N) (ex' := false) (h := gg) htr K hl
  have e2 := isFed91 f (playF f K (zL l)) b hb g.nb
  generalize decide (f.need b ≤ playF f K (zL l) b 1) = Q at e2 ⊢
  generalize playF f K (zL l) = W at e1 e2
  obtain ⟨M, FL, hZ⟩ : ∃ M fl, zV l = intsV M false fl := ⟨_, _, rfl⟩
  rw [hZ] at e1 ⊢
  refine callW_of_body tok Try.func126 rfl ?_
  refine SW.seqRun tok hO (by cbv <;> rfl) (by trivial) ?_
  refine SW.seqRunD tok mixed hO (by kernel_rfl) (by cbv <;> rfl) (by trivial) ?_
  refine AnyE.callP e1 (by cbv <;> rfl) (by cbv <;> rfl) ?_
  refine AnyE.run tok hO (by kernel_rfl) (by cbv <;> rfl) (by trivial) ?_
  refine AnyE.callP e2 (by cbv <;> rfl) (by cbv <;> rfl) ?_
  refine AnyE.run tok hO (by kernel_rfl) (by cbv <;> rfl) (by trivial) ?_
  exact SW.ret ⟨_, _, rfl, rfl, rfl, rfl⟩
set_option maxHeartbeats 4000000 in
theorem feeds92 {f : FarmD} (g : f.Good) (s : List (List Int)) (hs : s.length < 1000000) (hch : ∀ l ∈ s, l.length = f.ns) (K : Nat → Int) (b : Nat) (hb : b < f.nb) : Pure Try.prog 92 [workV f (llV s) K, iV (b : Int)] (.sb (s.all fun l => decide (f.need b ≤ playF f K (zL l) b 1))) := by
  obtain ⟨O, hO⟩ : ∃ O : Ar, O = std := ⟨_, rfl⟩
  have hlb := llV_below s
  have e1 := each125S s.length (gT s) ⟨[(1, .cells none false [iV (b : Int)]), (0, .cells none false (workC f (llV s) K))], 2⟩ 126 en126 [.ptr 0 0, .ptr 1 0] (fun i => decide (f.need b ≤ playF f K (zL (s.getD i [])) b 1)) hs (fun i hi => fed126 g hlb K b hb (s.getD i []) (hch _ (getD_mem hi)) i)
  rw [allN_s (p := fun l => decide (f.need b ≤ playF f K (zL l) b 1))] at e1
  generalize (s.all fun l => decide (f.need b ≤ playF f K (zL l) b 1)) = Q at e1 ⊢
  obtain ⟨N, gg, hll⟩ : ∃ N g, llV s = .isl N 1 false g := ⟨_, _, rfl⟩
  change CallW Try.prog 125 [llV s, .fn (.func 126) [] [.ptr 0 0, .ptr 1 0]] _ _ at e1
  rw [hll] at e1 hlb ⊢
  refine pure_of_body tok 3 Try.func92 en92 rfl ⟨workV_below f _ _ hlb, Below.lit, trivial⟩ Below.sb ?_
  refine SW.seqRun tok hO (by cbv <;> rfl) (by trivial) ?_
  refine SW.seqRun tok hO (by cbv <;> rfl) (by trivial) ?_
  refine OpsW.callS en125 e1 (by cbv <;> rfl) fun r st' hk => ?_
  obtain ⟨rfl, rfl⟩ := hk
  refine OpsW.run tok hO (by cbv <;> rfl) (by trivial) ?_
  exact SW.ret ⟨_, _, rfl, rfl, Eqv.bool rfl⟩
end Go.Fz
