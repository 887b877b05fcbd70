/- Own work of the verifier of watercress: FzG3, FzG4, FzC17, FzC18, FzC19, FzC20. -/
import Derived.Test.YtpefamheopplnaaMl17
set_option linter.unusedVariables false
set_option linter.unusedSimpArgs false
namespace Go.Fz
open Go.Proofs
set_option maxRecDepth 100000
theorem range_split (a b : Nat) (h : a ≤ b) : ∃ r, List.range b = List.range a ++ r := by
  have h1 := List.take_append_drop a (List.range b)
  rw [List.take_range, Nat.min_eq_left h] at h1
  exact ⟨_, h1.symm⟩
section
variable {K : List (List Nat) → Hp → Nat → Prop} {stop : List (List Nat) → List Nat → Hp → Nat → Prop} {ok : List Nat → Prop} {mc y many : Nat}
set_option maxHeartbeats 16000000 in
theorem ext_step (hmc : mc < 49) (hmany : many < 100) (hid : ∀ s h n, K s h n → rsI mc many h n) (hmono : ∀ s h n n', K s h n → n ≤ n' → K s h n') (m : Nat)
    (ih : ∀ (p : List Nat) (s : Nat) (seen : List (List Nat)) (h : Hp) (n : Nat) (st : St), m + p.length ≤ many → s ≤ many → (∀ l ∈ risE many m p s, ok l) → rsS mc y false p h n st → K seen h n →
      CallW Try.prog 102 [iV (m : Int), iV (s : Int), .ptr 49 0, .ptr 51 0, .ptr mc 0, .ptr 52 0] st (rsQ K stop mc y false seen p (risE many m p s)))
    (p : List Nat) (s : Nat) (seen : List (List Nat)) (h : Hp) (n : Nat) (st : St) (hp : m + 1 + p.length ≤ many) (hs : s ≤ many) (hok : ∀ l ∈ risE many (m + 1) p s, ok l) (hst : rsS mc y false p h n st) (hK : K seen h n) :
    CallW Try.prog 102 [iV ((m + 1 : Nat) : Int), iV (s : Int), .ptr 49 0, .ptr 51 0, .ptr mc 0, .ptr 52 0] st (rsQ K stop mc y false seen p (risE many (m + 1) p s)) := by
  obtain ⟨O, hO⟩ : ∃ O : Ar, O = std := ⟨_, rfl⟩
  obtain ⟨q, fm, fl, N, q1, q2, q3, qn, hpN, hfl, rfl⟩ := hst
  obtain ⟨F, hF⟩ : ∃ F : Nat → List (List Nat), F = fun c => risE many m (p ++ [s + c]) (s + c + 1) := ⟨_, rfl⟩
  have hE : risE many (m + 1) p s = (List.range (many - m - s)).flatMap F := by rw [hF]; rfl
  rw [hE] at hok ⊢
  have hsn : ∀ c, (List.range (c + 1)).flatMap F = (List.range c).flatMap F ++ F c := fun c => by rw [List.range_succ, List.flatMap_append]; simp
  obtain ⟨ma, hma⟩ : ∃ ma : Int, ((m + 1 : Nat) : Int) = ma := ⟨_, rfl⟩
  obtain ⟨sa, hsa⟩ : ∃ sa : Int, (s : Int) = sa := ⟨_, rfl⟩
  rw [hma, hsa]
  refine callW_of_body tok Try.func102 rfl ?_
  have hst0 : rsS mc y false p h n ⟨rsH mc y (.sl q 0 p.length 1 false) q fm (flatG 1 (intC fl) N) h, n⟩ := ⟨q, fm, fl, N, q1, q2, q3, qn, hpN, hfl, rfl⟩
  obtain ⟨L, hL⟩ : ∃ L, p.length = L := ⟨_, rfl⟩
  obtain ⟨G, hG⟩ : ∃ G, flatG 1 (intC fl) N = G := ⟨_, rfl⟩
  rw [hL, hG] at hst0
  rw [hL, hG]
  refine SW.seqRun tok hO (by cbv <;> rfl) (by trivial) ?_
  refine SW.seq ?_
  refine SW.seqRun tok hO (by cbv <;> rfl) (by trivial) ?_
  refine SW.condS (by cbv <;> rfl) (fun h1 => ?_) (fun h1 => SW.skip ?_)
  · exfalso
    have : ma = 0 := by subst hO; simpa [std] using h1
    omega
  refine SW.seq ?_
  refine SW.seqRun tok hO (by cbv <;> rfl) (by trivial) ?_
  refine (SW.block (SW.loop (fun k f st => ∃ (g : Nat → AV) (c : Nat) (h' : Hp) (n' : Nat), f = ⟨⟨42, g⟩, []⟩ ∧ AllP (fun p => g p.1 = p.2) [(0, iV ma), (2, .ptr 49 0), (3, .ptr 51 0), (4, .ptr mc 0), (5, .ptr 52 0), (9, iV (sa + (c : Int)))] ∧ rsS mc y false p h' n' st ∧
      K (seen ++ (List.range c).flatMap F) h' n' ∧ c ≤ many - m - s ∧ k = many - m - s - c) (many - m - s - 0) ?_ ?_))
  · refine ⟨_, 0, h, n, rfl, ⟨rfl, rfl, rfl, rfl, rfl, ?_, trivial⟩, hst0, by simpa using hK, by omega, rfl⟩
    show iV sa = iV (sa + ((0 : Nat) : Int))
    rw [show sa + ((0 : Nat) : Int) = sa by omega]
  · rintro k f st ⟨g, c, h', n', rfl, ⟨g0, g2, g3, g4, g5, g9, _⟩, hst, hK', hle, rfl⟩
    obtain ⟨q, fm, fl, N, q1, q2, q3, qn, hpN, hfl, rfl⟩ := hst
    obtain ⟨hn, hh, fm0, ro0, hmcg⟩ := hid _ _ _ hK'
    simp only at g0 g2 g3 g4 g5 g9
    rw [← updT_self g0, ← updT_self g2, ← updT_self g3, ← updT_self g4, ← updT_self g5, ← updT_self g9]
    obtain ⟨v, hv⟩ : ∃ v, sa + (c : Int) = v := ⟨_, rfl⟩
    have hst1 : rsS mc y false p h' n' ⟨rsH mc y (.sl q 0 p.length 1 false) q fm (flatG 1 (intC fl) N) h', n'⟩ := ⟨q, fm, fl, N, q1, q2, q3, qn, hpN, hfl, rfl⟩
    rw [hv]
    obtain ⟨G1, hG1⟩ : ∃ G1, flatG 1 (intC fl) N = G1 := ⟨_, rfl⟩
    rw [hL] at hst1 hpN
    rw [hG1] at hst1
    rw [hL, hG1]
    refine SW.seq ?_
    refine SW.seq (SW.runN tok hO 1 (by cbv <;> rfl) (by trivial) ?_)
    refine OpsW.ldI tok (by cbv <;> rfl) (load_int (v := (many : Int)) ((rs_mc q1 hmc).trans hmcg)) ?_
    obtain ⟨mn, hmn⟩ : ∃ mn : Int, (many : Int) = mn := ⟨_, rfl⟩
    rw [hmn]
    refine OpsW.run tok hO (by cbv <;> rfl) (by trivial) ?_
    have hsub : O.bin .sub .i64 mn ma = mn - ma := by
      subst hO
      show sub64 mn ma = _
      rw [sub64_in _ _ (by omega) (by omega)]
    refine SW.condS (by cbv <;> rfl) (fun h3 => SW.skip ?_) (fun h3 => SW.exit ?_)
    rotate_left
    · have hgt : mn - ma < v := by
        have : O.bin .sub .i64 mn ma < v := by subst hO; simpa [std] using h3
        rwa [hsub] at this
      have hc : c = many - m - s := by omega
      refine SW.seqRun tok hO (by cbv <;> rfl) (by trivial) ?_
      refine SW.ret ⟨_, _, rfl, rfl, .inl ⟨rfl, h', n', hst1, ?_⟩⟩
      rw [hc] at hK'; exact hK'
    · have hvle : v ≤ mn - ma := by
        have : v ≤ O.bin .sub .i64 mn ma := by subst hO; simpa [std] using h3
        rwa [hsub] at this
      have hcl : c < many - m - s := by omega
      have hvN : v = ((s + c : Nat) : Int) := by omega
      refine SW.seq (SW.block ?_)
      refine SW.seq (SW.runN tok hO 3 (by cbv <;> rfl) (by trivial) ?_)
      obtain ⟨h2, happ, hsubh⟩ := app_rs (mc := mc) (y := y) (t := 56) (L := L) (q := q) (n := n') (lv := .sl q 0 L 1 false) (fm := fm) (fl := fl) (N := N) (h := h') (v := v) (ex := true) (by kernel_rfl) q1 q2 q3 qn (by omega) (by omega) hh hn
      rw [hG1] at happ
      refine OpsW.appA tok (by cbv <;> rfl) happ ?_
      refine OpsW.sub (by rfl) hsubh ?_
      have hflx : ∀ i, i < (p ++ [s + c]).length → setI fl L v i = (((p ++ [s + c]).getD i 0 : Nat) : Int) := fun i hi => by
        rw [List.length_append, List.length_singleton, hL] at hi
        by_cases e : i = L
        · subst e
          rw [setI_self, hvN]
          congr 1
          rw [← hL]; simp
        · rw [setI_ne e, hfl i (by omega)]
          congr 1
          rw [List.getD_eq_getElem?_getD, List.getD_eq_getElem?_getD, List.getElem?_append_left (by omega)]
      have hlen1 : (p ++ [s + c]).length = L + 1 := by rw [List.length_append, List.length_singleton, hL]
      have hst2 : rsS mc y false (p ++ [s + c]) h' (n' + 1 + 1) ⟨rsH mc y (.sl (n' + 1) 0 (L + 1) 1 false) (n' + 1) (some (fm.getD q)) (flatG 1 (intC (setI fl L v)) (L + 1)) h', n' + 1 + 1⟩ :=
        ⟨n' + 1, some (fm.getD q), setI fl L v, L + 1, by omega, by omega, by omega, by omega, by omega, hflx, by rw [hlen1]⟩
      have hrec := ih (p ++ [s + c]) (s + c + 1) (seen ++ (List.range c).flatMap F) h' (n' + 1 + 1) _ (by omega) (by omega) (fun l hl => hok l (List.mem_flatMap.2 ⟨c, List.mem_range.2 hcl, by rw [hF]; exact hl⟩)) hst2 (hmono _ _ _ _ hK' (by omega))
      obtain ⟨G2, hG2⟩ : ∃ G2, flatG 1 (intC (setI fl L v)) (L + 1) = G2 := ⟨_, rfl⟩
      rw [hG2] at hrec
      rw [hG2]
      have e1 : iV (m : Int) = AV.lit (.int .i64 (O.bin .sub .i64 ma 1)) := by
        have : O.bin .sub .i64 ma 1 = (m : Int) := by
          subst hO
          show sub64 ma 1 = _
          rw [sub64_in _ _ (by omega) (by omega)]; omega
        rw [this]; rfl
      have e2 : iV ((s + c + 1 : Nat) : Int) = AV.lit (.int .i64 (O.bin .add .i64 v 1)) := by
        have : O.bin .add .i64 v 1 = ((s + c + 1 : Nat) : Int) := by
          subst hO
          show add64 v 1 = _
          rw [add64_in _ _ (by omega) (by omega)]; omega
        rw [this]; rfl
      rw [e1, e2] at hrec
      refine OpsW.run tok hO (by cbv <;> rfl) (by trivial) ?_
      refine SW.seqRun tok hO (by cbv <;> rfl) (by trivial) ?_
      refine OpsW.apply (by cbv <;> rfl) (show ApplyW Try.prog (extV mc) _ _ _ from ⟨en102, hrec⟩) fun w st' hk => ?_
      have hFc : risE many m (p ++ [s + c]) (s + c + 1) = F c := by rw [hF]
      rw [hFc] at hk
      have hcut : O.bin .sub .i64 (Int.ofNat (L + 1)) 1 = Int.ofNat L := by
        subst hO
        show sub64 ((L + 1 : Nat) : Int) 1 = (L : Int)
        rw [sub64_in _ _ (by omega) (by omega)]; omega
      rcases hk with ⟨rfl, h3, n3, ⟨q', fm', fl', N', k1, k2, k3, k4, k5, k6, rfl⟩, hk⟩ | ⟨rfl, pre, l, post, h3, n3, hE3, ⟨q', fm', fl', N', k1, k2, k3, k4, k5, k6, rfl⟩, hk⟩
      · have hst3 : rsS mc y false p h3 n3 ⟨rsH mc y (.sl q' 0 L 1 false) q' fm' (flatG 1 (intC fl') N') h3, n3⟩ := ⟨q', fm', fl', N', k1, k2, k3, k4, by rw [hlen1] at k5; omega, fun i hi => by
          rw [k6 i (by omega), List.getD_eq_getElem?_getD, List.getD_eq_getElem?_getD, List.getElem?_append_left (by omega)], by rw [hL]⟩
        obtain ⟨G3, hG3⟩ : ∃ G3, flatG 1 (intC fl') N' = G3 := ⟨_, rfl⟩
        rw [hG3] at hst3
        rw [hG3, hlen1]
        refine OpsW.run tok hO (by cbv <;> rfl) (by trivial) ?_
        refine SW.seq (SW.runN tok hO 4 (by cbv <;> rfl) (by trivial) ?_)
        refine OpsW.cutU tok (u := L) (by cbv <;> rfl) hcut (by kernel_rfl) (by omega) ?_
        refine OpsW.run tok hO (by cbv <;> rfl) (by trivial) ?_
        refine SW.seqRun tok hO (by cbv <;> rfl) (by trivial) ?_
        refine SW.cond (t := false) (by cbv <;> rfl) (SW.skip ?_)
        refine SW.run tok hO (by cbv <;> rfl) (by trivial) ?_
        have hinc : O.bin .add .i64 v 1 = sa + ((c + 1 : Nat) : Int) := by
          subst hO
          show add64 v 1 = _
          rw [add64_in _ _ (by omega) (by omega)]; omega
        refine ⟨many - m - s - (c + 1), by omega, _, c + 1, h3, n3, rfl, ⟨rfl, rfl, rfl, rfl, rfl, congrArg (fun z => AV.lit (.int .i64 z)) hinc, trivial⟩, hst3, ?_, by omega, rfl⟩
        rw [hsn, ← List.append_assoc]; exact hk
      · have hst3 : rsS mc y false p h3 n3 ⟨rsH mc y (.sl q' 0 L 1 false) q' fm' (flatG 1 (intC fl') N') h3, n3⟩ := ⟨q', fm', fl', N', k1, k2, k3, k4, by rw [hlen1] at k5; omega, fun i hi => by
          rw [k6 i (by omega), List.getD_eq_getElem?_getD, List.getD_eq_getElem?_getD, List.getElem?_append_left (by omega)], by rw [hL]⟩
        obtain ⟨G3, hG3⟩ : ∃ G3, flatG 1 (intC fl') N' = G3 := ⟨_, rfl⟩
        rw [hG3] at hst3
        rw [hG3, hlen1]
        refine OpsW.run tok hO (by cbv <;> rfl) (by trivial) ?_
        refine SW.seq (SW.runN tok hO 4 (by cbv <;> rfl) (by trivial) ?_)
        refine OpsW.cutU tok (u := L) (by cbv <;> rfl) hcut (by kernel_rfl) (by omega) ?_
        refine OpsW.run tok hO (by cbv <;> rfl) (by trivial) ?_
        refine SW.seqRun tok hO (by cbv <;> rfl) (by trivial) ?_
        refine SW.cond (t := true) (by cbv <;> rfl) ?_
        refine SW.seqRun tok hO (by cbv <;> rfl) (by trivial) ?_
        obtain ⟨r, hr⟩ := range_split (c + 1) (many - m - s) hcl
        have hsplit : (List.range (many - m - s)).flatMap F = ((List.range c).flatMap F ++ pre) ++ l :: (post ++ r.flatMap F) := by
          rw [hr, List.flatMap_append, hsn, hE3]
          simp [List.append_assoc]
        refine SW.ret ⟨_, _, rfl, rfl, .inr ⟨rfl, (List.range c).flatMap F ++ pre, l, _, h3, n3, hsplit, hst3, ?_⟩⟩
        rw [← List.append_assoc]; exact hk
end
end Go.Fz
namespace Go.Fz
open Go.Proofs
set_option maxRecDepth 100000
theorem SW.sub {P : Program} {rd : Option Nat} {c : Code} {Q : Exit → Fm → St → Prop} {f : Fm} {h1 h2 : Hp} {n : Nat} (hd : f.dm = []) (hs : ∀ id o, h2.get id = some o → h1.get id = some o ∧ id < n) (h : SW P rd c Q f ⟨h2, n⟩) : SW P rd c Q f ⟨h1, n⟩ :=
  SW.pre (f2 := f) (st2 := ⟨h2, n⟩) ⟨rfl, rfl, fun id hid => (by rw [hd] at hid; cases hid), fun i => .inr ⟨rfl, .inl rfl⟩, Nat.le_refl _, Nat.le_refl _, fun id o ho => ⟨(hs id o ho).1, (hs id o ho).2, .inl rfl⟩⟩ h
section
variable {K : List (List Nat) → Hp → Nat → Prop} {stop : List (List Nat) → List Nat → Hp → Nat → Prop} {ok : List Nat → Prop} {mc y many : Nat}
theorem ext_ok (hmc : mc < 49) (hmany : many < 100) (hid : ∀ s h n, K s h n → rsI mc many h n) (hmono : ∀ s h n n', K s h n → n ≤ n' → K s h n') (step : rsStep K stop ok y) :
    ∀ (m : Nat) (ex : Bool) (p : List Nat) (s : Nat) (seen : List (List Nat)) (h : Hp) (n : Nat) (st : St), (0 < m → ex = false) → m + p.length ≤ many → s ≤ many → (∀ l ∈ risE many m p s, ok l) → rsS mc y ex p h n st → K seen h n →
      CallW Try.prog 102 [iV (m : Int), iV (s : Int), .ptr 49 0, .ptr 51 0, .ptr mc 0, .ptr 52 0] st (rsQ K stop mc y ex seen p (risE many m p s))
  | 0, ex, p, s, seen, h, n, st, _, hp, _, hok, hst, hK => ext_leaf hmc hmany hid step p s seen h n st (by omega) (hok p (List.mem_singleton.2 rfl)) hst hK
  | m + 1, ex, p, s, seen, h, n, st, hex, hp, hs, hok, hst, hK => by
    obtain rfl := hex (Nat.succ_pos m)
    exact ext_step hmc hmany hid hmono m (fun p s seen h n st => ext_ok hmc hmany hid hmono step m false p s seen h n st fun _ => rfl) p s seen h n st hp hs hok hst hK
theorem mem_risE_sub {many : Nat} {m : Nat} (hm : m ≤ many) {l : List Nat} (hl : l ∈ risE many m [] 0) : l ∈ risL many := List.mem_flatMap.2 ⟨m, List.mem_range.2 (by omega), hl⟩
set_option maxHeartbeats 16000000 in
theorem rising101 (hmc : mc < 49) (hmany : many < 100) (hid : ∀ s h n, K s h n → rsI mc many h n) (hidS : ∀ s l h n, stop s l h n → 53 ≤ n ∧ ∀ x ∈ h, x.1 < 49) (hmono : ∀ s h n n', K s h n → n ≤ n' → K s h n') (hok : ∀ l ∈ risL many, ok l) (step : rsStep K stop ok y)
    (h0 : Hp) (n0 : Nat) (hn0 : n0 ≤ 49) (hK : K [] h0 53) :
    CallW Try.prog 101 [.yld y, .ptr mc 0] ⟨h0, n0⟩ (fun _ st' => ∃ h n, st' = ⟨h, n⟩ ∧ (K (risL many) h n ∨ ∃ pre l post, risL many = pre ++ l :: post ∧ stop pre l h n)) := by
  obtain ⟨O, hO⟩ : ∃ O : Ar, O = std := ⟨_, rfl⟩
  obtain ⟨_, hh0, fm0, ro0, hmcg⟩ := hid _ _ _ hK
  refine CallW.pad (n := 49) (by show n0 ≤ 49; exact hn0) ?_
  refine CallW.weak (k1 := fun _ st' => ∃ R h n, (∀ id o, Hp.get R id = some o → 49 ≤ id) ∧ st' = ⟨R ++ h, n⟩ ∧ (∀ x ∈ h, x.1 < 49) ∧ 53 ≤ n ∧ (K (risL many) h n ∨ ∃ pre l post, risL many = pre ++ l :: post ∧ stop pre l h n)) ?_ (fun v st1 ⟨R, h, n, hR, hs, hl, hn, hk⟩ => .inr ⟨.any, ⟨h, n⟩, ⟨.inl rfl, by show 49 ≤ n; omega, by rw [hs]; exact Nat.le_refl _, fun id o ho => ?_⟩, h, n, rfl, hk⟩)
  rotate_left
  · have hlt : id < 49 := hl _ (Hp.mem_of_get ho)
    refine ⟨?_, by show id < n; omega, .inl (by rw [hs])⟩
    rw [hs]
    show Hp.get (R ++ h) id = some o
    rw [Hp.get_app]
    cases hg : Hp.get R id with
    | none => exact ho
    | some o' => have := hR id o' hg; omega
  have hget : ∀ {q : Nat} {fm : Option Nat} {G : List AV} {lv : AV}, 50 ≤ q → ∀ id o, Hp.get [(52, AObj.cells none false [extV mc]), (51, .cells none false [lv]), (49, .cells none false [.yld y]), (q, .cells fm false G)] id = some o → 49 ≤ id := fun hq id o ho => by
    have := Hp.mem_of_get ho
    simp only [List.mem_cons, List.not_mem_nil, or_false, Prod.mk.injEq] at this
    omega
  obtain ⟨F, hF⟩ : ∃ F : Nat → List (List Nat), F = fun m => risE many m [] 0 := ⟨_, rfl⟩
  have hsn : ∀ c, (List.range (c + 1)).flatMap F = (List.range c).flatMap F ++ F c := fun c => by rw [List.range_succ, List.flatMap_append]; simp
  have hE : risL many = (List.range (many + 1)).flatMap F := by rw [hF]; rfl
  refine callW_of_body tok Try.func101 rfl ?_
  refine SW.seqRun tok hO (by cbv <;> rfl) (by trivial) ?_
  have hmc1 : ∀ o, Hp.get ((49, o) :: h0) mc = some (.cells fm0 ro0 [iV (many : Int)]) := fun o => by
    simp only [Hp.get]
    rw [if_neg (by omega)]; exact hmcg
  refine SW.seq (SW.runN tok hO 0 (by cbv <;> rfl) (by trivial) ?_)
  refine OpsW.ldI tok (by cbv <;> rfl) (load_int (v := (many : Int)) (hmc1 _)) ?_
  obtain ⟨mn, hmn⟩ : ∃ mn : Int, (many : Int) = mn := ⟨_, rfl⟩
  rw [hmn]
  refine OpsW.runN tok hO 1 (by cbv <;> rfl) (by trivial) ?_
  have hmx : O.mx mn 0 = Int.ofNat many := by
    subst hO
    show (if (0 : Int) > mn then 0 else mn) = (many : Int)
    rw [if_neg (by omega), hmn]
  refine OpsW.mkCap tok (N := many) (by cbv <;> rfl) hmx (by kernel_rfl) (by omega) ?_
  have hst0 : rsS mc y (Nat.beq many 0) [] h0 53 ⟨rsH mc y (.sl 50 0 0 1 (Nat.beq many 0)) 50 none (flatG 1 (intC fun _ => 0) many) h0, 53⟩ :=
    ⟨50, none, fun _ => 0, many, by omega, by omega, by omega, by omega, Nat.zero_le _, fun i hi => absurd hi (Nat.not_lt_zero i), rfl⟩
  obtain ⟨G, hG⟩ : ∃ G, flatG 1 (intC fun _ => 0) many = G := ⟨_, rfl⟩
  obtain ⟨ex, hex⟩ : ∃ ex, Nat.beq many 0 = ex := ⟨_, rfl⟩
  rw [hG, hex] at hst0
  rw [hG, hex]
  refine OpsW.run tok hO (by cbv <;> rfl) (by trivial) ?_
  refine SW.seqRun tok hO (by cbv <;> rfl) (by trivial) ?_
  refine SW.seqRun tok hO (by cbv <;> rfl) (by trivial) ?_
  refine SW.seqRun tok hO (by cbv <;> rfl) (by trivial) ?_
  refine SW.sub (h2 := rsH mc y (.sl 50 0 0 1 ex) 50 none G h0) (by rfl) (fun id o ho => ?_) ?_
  · have hm := Hp.mem_of_get ho
    unfold rsH at ho hm
    simp only [List.mem_cons, Prod.mk.injEq] at hm
    rcases hm with ⟨rfl, rfl⟩ | ⟨rfl, rfl⟩ | ⟨rfl, rfl⟩ | ⟨rfl, rfl⟩ | hm
    · exact ⟨rfl, by omega⟩
    · exact ⟨rfl, by omega⟩
    · exact ⟨rfl, by omega⟩
    · exact ⟨rfl, by omega⟩
    · have hlt : id < 49 := (hh0 _ hm).1
      simp only [Hp.get] at ho ⊢
      rw [if_neg (by omega), if_neg (by omega), if_neg (by omega), if_neg (by omega)] at ho ⊢
      exact ⟨ho, by omega⟩
  refine SW.block (SW.loop (fun k f st => ∃ (g : Nat → AV) (c : Nat) (h' : Hp) (n' : Nat), f = ⟨⟨20, g⟩, []⟩ ∧ AllP (fun p => g p.1 = p.2) [(1, .ptr mc 0), (4, .ptr 52 0), (5, iV (c : Int))] ∧ rsS mc y ex [] h' n' st ∧ K ((List.range c).flatMap F) h' n' ∧ c ≤ many + 1 ∧ k = many + 1 - c) (many + 1 - 0) ?_ ?_)
  · exact ⟨_, 0, h0, 53, rfl, ⟨rfl, rfl, rfl, trivial⟩, hst0, hK, by omega, rfl⟩
  · rintro k f st ⟨g, c, h', n', rfl, ⟨g1, g4, g5, _⟩, hst, hK', hle, rfl⟩
    have hst1 := hst
    obtain ⟨q, fm, fl, N, q1, q2, q3, qn, hpN, hfl, rfl⟩ := hst
    obtain ⟨hn, hh, fm1, ro1, hmcg1⟩ := hid _ _ _ hK'
    simp only at g1 g4 g5
    rw [← updT_self g1, ← updT_self g4, ← updT_self g5]
    have hmcg2 := (rs_mc (y := y) (lv := .sl q 0 0 1 ex) (q := q) (fm := fm) (G := flatG 1 (intC fl) N) (h := h') q1 hmc).trans hmcg1
    obtain ⟨G1, hG1⟩ : ∃ G1, flatG 1 (intC fl) N = G1 := ⟨_, rfl⟩
    obtain ⟨v, hv⟩ : ∃ v, (c : Int) = v := ⟨_, rfl⟩
    have hlow : ∀ x ∈ h', x.1 < 49 := fun x hx => (hh x hx).1
    have hrec := fun hc : c ≤ many => ext_ok hmc hmany hid hmono step c ex [] 0 _ h' n' _ (fun hp => by rw [← hex]; cases many with | zero => omega | succ k => rfl) (by rw [List.length_nil]; omega) (Nat.zero_le _) (fun l hl => hok l (mem_risE_sub hc hl)) hst1 hK'
    simp only [List.length_nil] at hrec hst1 ⊢
    rw [hG1] at hst1 hmcg2
    rw [hG1, hv] at hrec
    rw [hG1, hv]
    refine SW.seq ?_
    refine SW.seq (SW.runN tok hO 1 (by cbv <;> rfl) (by trivial) ?_)
    refine OpsW.ldI tok (by cbv <;> rfl) (load_int (v := (many : Int)) hmcg2) ?_
    rw [hmn]
    refine OpsW.run tok hO (by cbv <;> rfl) (by trivial) ?_
    refine OpsW.splitG (by cbv <;> rfl) (fun hb => ?_) (fun hb => ?_)
    rotate_left
    · have hgt : ¬ v ≤ mn := by subst hO; exact of_decide_eq_false hb
      have hc : c = many + 1 := by omega
      refine OpsW.run tok hO (by cbv <;> rfl) (by trivial) ?_
      refine SW.cond (t := false) (by cbv <;> rfl) (SW.exit ?_)
      refine ⟨_, _, rfl, rfl, [(52, .cells none false [extV mc]), (51, .cells none false [.sl q 0 0 1 ex]), (49, .cells none false [.yld y]), (q, .cells fm false G1)], h', n', hget q1, rfl, hlow, hn, .inl ?_⟩
      rw [hE, ← hc]; exact hK'
    · have hcle : v ≤ mn := by subst hO; exact of_decide_eq_true hb
      refine OpsW.run tok hO (by cbv <;> rfl) (by trivial) ?_
      refine OpsW.apply (by cbv <;> rfl) (show ApplyW Try.prog (extV mc) _ _ _ from ⟨en102, hrec (by omega)⟩) fun w st' hk => ?_
      rcases hk with ⟨rfl, h3, n3, hst3, hk⟩ | ⟨rfl, pre, l, post, h3, n3, hE3, hst3, hk⟩
      · have hst4 := hst3
        obtain ⟨q', fm', fl', N', k1, k2, k3, k4, k5, k6, rfl⟩ := hst3
        obtain ⟨G3, hG3⟩ : ∃ G3, flatG 1 (intC fl') N' = G3 := ⟨_, rfl⟩
        simp only [List.length_nil] at hst4 ⊢
        rw [hG3] at hst4
        rw [hG3]
        refine OpsW.run tok hO (by cbv <;> rfl) (by trivial) ?_
        refine SW.cond (t := true) (by cbv <;> rfl) (SW.skip ?_)
        refine SW.seq (SW.block (SW.skip ?_))
        refine SW.run tok hO (by cbv <;> rfl) (by trivial) ?_
        have hinc : O.bin .add .i64 v 1 = ((c + 1 : Nat) : Int) := by
          subst hO
          show add64 v 1 = _
          rw [add64_in _ _ (by omega) (by omega)]; omega
        refine ⟨many + 1 - (c + 1), by omega, _, c + 1, h3, n3, rfl, ⟨rfl, rfl, congrArg (fun z => AV.lit (.int .i64 z)) hinc, trivial⟩, hst4, ?_, by omega, rfl⟩
        rw [hsn, hF]; rw [hF] at hk; exact hk
      · obtain ⟨q', fm', fl', N', k1, k2, k3, k4, k5, k6, rfl⟩ := hst3
        obtain ⟨G3, hG3⟩ : ∃ G3, flatG 1 (intC fl') N' = G3 := ⟨_, rfl⟩
        simp only [List.length_nil]
        rw [hG3]
        refine OpsW.run tok hO (by cbv <;> rfl) (by trivial) ?_
        refine SW.cond (t := false) (by cbv <;> rfl) (SW.exit ?_)
        obtain ⟨hn3, hl3⟩ := hidS _ _ _ _ hk
        obtain ⟨r, hr⟩ := range_split (c + 1) (many + 1) (by omega)
        refine ⟨_, _, rfl, rfl, [(52, .cells none false [extV mc]), (51, .cells none false [.sl q' 0 0 1 ex]), (49, .cells none false [.yld y]), (q', .cells fm' false G3)], h3, n3, hget k1, rfl, hl3, hn3, .inr ⟨(List.range c).flatMap F ++ pre, l, post ++ r.flatMap F, ?_, hk⟩⟩
        have hE4 : F c = pre ++ l :: post := by rw [hF]; exact hE3
        rw [hE, hr, List.flatMap_append, hsn, hE4]
        simp [List.append_assoc]
theorem rising74 (h : Hp) (n : Nat) : CallW Try.prog 74 [iV (many : Int)] ⟨h, n⟩ (fun v st' => v = .fn (.func 101) [] [.ptr n 0] ∧ st' = ⟨(n, .cells none false [iV (many : Int)]) :: h, n + 1⟩) := by
  obtain ⟨O, hO⟩ : ∃ O : Ar, O = std := ⟨_, rfl⟩
  obtain ⟨mn, hmn⟩ : ∃ mn : Int, (many : Int) = mn := ⟨_, rfl⟩
  rw [hmn]
  refine callW_of_body tok Try.func74 rfl ?_
  refine SW.seqRun tok hO (by cbv <;> rfl) (by trivial) ?_
  refine SW.seqRun tok hO (by cbv <;> rfl) (by trivial) ?_
  exact SW.ret ⟨_, _, rfl, rfl, rfl, rfl⟩
end
end Go.Fz
namespace Go.Fz
open Go.Proofs
set_option maxRecDepth 100000
def outX (nw nl : Nat) (A B C D : Nat → Nat → Int) (a b c e : Nat → Int) (i k : Nat) : AV := match k with
  | 0 => intsV nw false (A i)
  | 1 => intsV nl false (B i)
  | 2 => intsV nw false (C i)
  | 3 => intsV nw false (D i)
  | 4 => iV (a i)
  | 5 => iV (b i)
  | 6 => iV (c i)
  | _ => iV (e i)
def nthF (l : List (Nat → Int)) (i : Nat) : Nat → Int := l.getD i (fun _ => 0)
theorem outG_X (d : DayD) (l : List (Nat → Int)) : outG d l = outX d.nw d.nl (fun i => nthF l i) (fun i j => nthF l i (d.nw + j)) (fun i => d.bun (truF d (nthF l i))) (fun i => d.lef (truF d (nthF l i)))
    (fun i => (d.tally (truF d (nthF l i))).hands) (fun i => (d.tally (truF d (nthF l i))).loose) (fun i => (d.tally (truF d (nthF l i))).flats) (fun i => (d.tally (truF d (nthF l i))).spare) := by
  funext i k
  match k with
  | 0 | 1 | 2 | 3 | 4 | 5 | 6 => rfl
  | _ + 7 => rfl
def bmP (b : Nat → Bool) : Nat → List (Bool × Nat) × Nat
  | 0 => ([], 0)
  | i + 1 => (updE (bmP b i).1 (b i) (bmP b i).2, updC (bmP b i).1 (b i) (bmP b i).2)
theorem updE_mem {β : Type} [DecidableEq β] {E : List (β × Nat)} {x b : β} {c : Nat} : x ∈ (updE E b c).map (·.1) ↔ x ∈ E.map (·.1) ∨ x = b := by
  unfold updE
  split
  · rename_i h
    exact ⟨.inl, fun h2 => h2.elim id fun e => by rw [e]; exact h⟩
  · simp
def someB (b : Nat → Bool) (x : Bool) (n : Nat) : Bool := decide (x ∈ (bmP b n).1.map (·.1))
def verdict (b : Nat → Bool) (n : Nat) : Int := if someB b false n = false then 1 else if someB b true n = false then 2 else 3
set_option maxHeartbeats 16000000 in
theorem thicker_core (d : DayD) (w : Nat) (n : Int) (hw : w < d.nw) (hn : 0 ≤ n ∧ n ≤ 60) (L : Nat) (A B C D : Nat → Nat → Int) (a b c e : Nat → Int) (ME : List (AV × AV × Nat)) (cl : Nat) (hL : L < 100000)
    (e1 : Pure Try.prog 73 [dayV d, iV w] (.lit (.bool true)))
    (e2 : Fresh Try.prog 57 [dayV d, .lit (.bool true)] (fun k => .tup [.agg [iV d.hand, iV d.flat, womsV d, lotsV d, cntsV d, .isl L 8 false (outX d.nw d.nl A B C D a b c e), .mp k], iV 0]) ME cl) :
    Pure Try.prog 23 [dayV d, iV w, iV n] (.tup [iV (verdict (fun i => decide (n < A i w)) L), iV 0]) := by
  obtain ⟨O, hO⟩ : ∃ O : Ar, O = std := ⟨_, rfl⟩
  have hnat : ∀ i : Nat, O.nat (Int.ofNat i) = i := fun i => by subst hO; rfl
  have hGb : Below 0 (.isl L 8 false (outX d.nw d.nl A B C D a b c e)) := Below.isl fun i k _ _ => by
    unfold outX
    split <;> first | exact intsV_below _ _ _ | exact Below.lit
  refine pure_of_body tok 3 Try.func23 en23 rfl ⟨dayV_below d, Below.lit, Below.lit, trivial⟩ (Below.tup (AllB.ok ⟨Below.lit, Below.lit, trivial⟩)) ?_
  refine SW.seqRun tok hO (by cbv <;> rfl) (by trivial) ?_
  refine SW.seq ((thicker_a d w n hn L _ ME cl hGb e1 e2 _ ⟨rfl, rfl, rfl, trivial⟩).mono fun e f st hm => ?_)
  obtain ⟨rfl, g, rfl, ⟨g1, g2, g3, g8, g9, _⟩, rfl⟩ := hm
  simp only at g1 g2 g3 g8 g9
  rw [← updT_self g1, ← updT_self g2, ← updT_self g8, ← updT_self g9]
  clear e2 e1 g3
  show SW _ _ _ _ _ _
  refine SW.seq ?_
  refine SW.seqRun tok hO (by cbv <;> rfl) (by trivial) ?_
  refine SW.condS (by cbv <;> rfl) (fun h1 => ?_) (fun h1 => SW.skip ?_)
  · exfalso
    subst hO; simp [std] at h1
  refine SW.seq (SW.runN tok hO 0 (by cbv <;> rfl) (by trivial) ?_)
  refine OpsW.mkMap (by rfl) ?_
  refine OpsW.run tok hO (by cbv <;> rfl) (by trivial) ?_
  refine SW.seq ?_
  refine SW.seqRun tok hO (by cbv <;> rfl) (by trivial) ?_
  refine (SW.block (SW.loopM (fun i : Nat => ⟨⟨58, getT [(1, iV w), (2, iV n), (10, .mp 2), (34, .isl L 8 false (outX d.nw d.nl A B C D a b c e)), (35, iV L), (36, iV i)]⟩, []⟩) (fun i => ⟨[(2, .map (mapE AV.sb (bmP (fun i => decide (n < A i w)) i).1) (bmP (fun i => decide (n < A i w)) i).2)], 3⟩) (fun i => L - i) (fun i => i ≤ L) 0
    (fun _ => rfl) (Nat.zero_le _) (Weak.by rfl rfl (by simp) (Nat.le_refl _) (Nat.le_refl _) ⟨⟨rfl, .inl rfl⟩, ⟨rfl, .inl rfl⟩, ⟨rfl, .inl rfl⟩, ⟨rfl, .inl rfl⟩, ⟨rfl, .inl rfl⟩, ⟨rfl, .inl rfl⟩, trivial⟩ ⟨⟨rfl, by show 2 < 3; omega, .inl rfl⟩, trivial⟩) fun i hi => ?_))
  obtain ⟨E, hE⟩ : ∃ E, (bmP (fun i => decide (n < A i w)) i).1 = E := ⟨_, rfl⟩
  obtain ⟨c2, hc2⟩ : ∃ E, (bmP (fun i => decide (n < A i w)) i).2 = E := ⟨_, rfl⟩
  rw [hE, hc2]
  obtain ⟨ME2, hME2⟩ : ∃ m, mapE AV.sb E = m := ⟨_, rfl⟩
  rw [hME2]
  refine SW.seqRun tok hO (by cbv <;> rfl) (by trivial) ?_
  refine SW.seq (SW.condS (by cbv <;> rfl) (fun h => SW.skip ?_) (fun h => SW.exit ?_))
  · have hlt : i < L := by subst hO; simpa [std] using h
    have hi0 : (0 : Int) ≤ Int.ofNat i := Int.natCast_nonneg i
    have hw0 : (0 : Int) ≤ Int.ofNat w := Int.natCast_nonneg w
    refine SW.seq (SW.block ?_)
    refine SW.seqRun tok hO (by cbv <;> rfl) ?_ ?_
    · exact ⟨hi0, Int.ofNat_lt.2 hlt⟩
    refine SW.runN tok hO 9 (by cbv <;> rfl) ?_ ?_
    · exact ⟨hw0, Int.ofNat_lt.2 hw⟩
    refine OpsW.mapUpd tok keyed4 boolKey (b := O.cmp .gtr (A (O.nat (Int.ofNat i)) (O.nat (Int.ofNat w))) n) (id := 2) (E := E) (clock := c2) (by cbv <;> rfl) (by kernel_rfl) (by rw [hME2]; rfl) ?_
    have hb : O.cmp .gtr (A (O.nat (Int.ofNat i)) (O.nat (Int.ofNat w))) n = decide (n < A i w) := by
      rw [hnat, hnat]; subst hO; simp [std]
    rw [hb]
    obtain ⟨ME3, hME3⟩ : ∃ m, mapE AV.sb (updE E (decide (n < A i w)) c2) = m := ⟨_, rfl⟩
    obtain ⟨c3, hc3⟩ : ∃ m, updC E (decide (n < A i w)) c2 = m := ⟨_, rfl⟩
    rw [hME3, hc3]
    refine OpsW.nil ?_
    refine SW.run tok hO (by cbv <;> rfl) (by trivial) ?_
    refine ⟨i + 1, by omega, hlt, ?_⟩
    have hs : (bmP (fun i => decide (n < A i w)) (i + 1)) = (updE E (decide (n < A i w)) c2, updC E (decide (n < A i w)) c2) := by rw [← hE, ← hc2]; rfl
    rw [hs]
    simp only
    rw [hME3, hc3]
    refine WeakM.by rfl rfl (fun _ h => nomatch h) (Nat.le_refl _) (by show 3 ≤ 4; omega) ⟨⟨rfl, .inr Below.lit⟩, ⟨rfl, .inr Below.lit⟩, ⟨rfl, .inr (Below.mp (by omega))⟩, ⟨rfl, .inr (Below.up (m := 0) hGb)⟩, ⟨rfl, .inr Below.lit⟩, ⟨inc_ok hO (by omega), .inr Below.lit⟩, trivial⟩ ⟨⟨rfl, by show 2 < 3; omega, .inr ?_⟩, trivial⟩
    rw [← hME3]
    intro x hx
    obtain ⟨p, _, rfl⟩ := List.mem_map.1 hx
    exact ⟨Below.sb, Below.lit⟩
  have hge : i = L := by
    have : L ≤ i := by subst hO; simpa [std] using h
    omega
  subst hge
  refine SW.seq (SW.block ?_)
  refine SW.seq (SW.runN tok hO 1 (by cbv <;> rfl) (by trivial) ?_)
  refine OpsW.mapLook tok keyed4 boolKey false (id := 2) (E := E) (clock := c2) (by cbv <;> rfl) (Eqv.bool rfl) (by kernel_rfl) falseZ4 (by rw [hME2]; rfl) ?_
  have hv : verdict (fun j => decide (n < A j w)) i = if decide (false ∈ E.map (·.1)) = false then 1 else if decide (true ∈ E.map (·.1)) = false then 2 else 3 := by
    unfold verdict someB; rw [hE]
  rw [hv]
  obtain ⟨sF, hF⟩ : ∃ s, decide (false ∈ E.map (·.1)) = s := ⟨_, rfl⟩
  rw [hF]
  refine OpsW.run tok hO (by cbv <;> rfl) (by trivial) ?_
  refine SW.condS (by cbv <;> rfl) (fun h2 => ?_) (fun h2 => ?_)
  · have : sF = false := by subst hO; simpa [std] using h2
    subst this
    refine SW.seqRun tok hO (by cbv <;> rfl) (by trivial) ?_
    exact SW.ret ⟨_, _, rfl, rfl, Eqv.of rfl⟩
  have : sF = true := by subst hO; simpa [std] using h2
  subst this
  refine SW.seq (SW.runN tok hO 1 (by cbv <;> rfl) (by trivial) ?_)
  refine OpsW.mapLook tok keyed4 boolKey true (id := 2) (E := E) (clock := c2) (by cbv <;> rfl) (Eqv.bool rfl) (by kernel_rfl) falseZ4 (by rw [hME2]; rfl) ?_
  obtain ⟨sT, hT⟩ : ∃ s, decide (true ∈ E.map (·.1)) = s := ⟨_, rfl⟩
  rw [hT]
  refine OpsW.run tok hO (by cbv <;> rfl) (by trivial) ?_
  refine SW.condS (by cbv <;> rfl) (fun h3 => ?_) (fun h3 => SW.skip ?_)
  · have : sT = false := by subst hO; simpa [std] using h3
    subst this
    refine SW.seqRun tok hO (by cbv <;> rfl) (by trivial) ?_
    exact SW.ret ⟨_, _, rfl, rfl, Eqv.of rfl⟩
  have : sT = true := by subst hO; simpa [std] using h3
  subst this
  refine SW.seqRun tok hO (by cbv <;> rfl) (by trivial) ?_
  exact SW.ret ⟨_, _, rfl, rfl, Eqv.of rfl⟩
end Go.Fz
namespace Go.Fz
open Go.Proofs
set_option maxRecDepth 100000
def tkZ (d : DayD) : St := ⟨[(1, .cells none false stZ), (0, .cells none false (dayC d))], 2⟩
set_option maxHeartbeats 8000000 in
theorem thicker_z (d : DayD) (w n : Int) (hn : 0 ≤ n ∧ n ≤ 60)
    (e1 : Pure Try.prog 73 [dayV d, iV w] (.lit (.bool true)))
    (e2 : Pure Try.prog 57 [dayV d, .lit (.bool true)] (.tup [.agg stZ, iV 11])) (g : Nat → AV) (h : AllP (fun p => g p.1 = p.2) [(1, iV w), (2, iV n), (3, .ptr 0 0)]) :
    SW Try.prog none (nthC 1 (bodyF Try.f23)) (midK 58 [(1, iV w), (2, iV n), (3, .ptr 0 0), (8, .ptr 1 0), (9, iV 11)] (tkZ d)) ⟨⟨58, g⟩, []⟩ ⟨[(0, .cells none false (dayC d))], 1⟩ := by
  obtain ⟨O, hO⟩ : ∃ O : Ar, O = std := ⟨_, rfl⟩
  obtain ⟨g1, g2, g3, _⟩ := h
  simp only at g1 g2 g3
  rw [← updT_self g1, ← updT_self g2, ← updT_self g3]
  refine SW.ren ?_
  refine SW.runD tok mixed hO (by rfl) (by cbv <;> rfl) (by trivial) ?_
  refine AnyE.many [3, 16] (by cbv <;> rfl) (by rfl) ⟨?_, ?_, trivial⟩
  · refine PickE.callQ e1 (by cbv <;> rfl) (by cbv <;> rfl) ?_ ?_
    · exact (by repeat (first | exact trivial | refine And.intro (by first | exact lv_of hO (by cbv <;> rfl) (by trivial) | (cbv <;> rfl)) ?_))
    refine AnyE.run tok hO (by rfl) (by cbv <;> rfl) (by trivial) ?_
    refine AnyE.dec tok hO (by rfl) (by cbv <;> rfl) (by trivial) (fun h1 => ?_) (fun h1 => ?_)
    rotate_left
    · exfalso; subst hO; simp [std] at h1; omega
    refine AnyE.run tok hO (by rfl) (by cbv <;> rfl) (by trivial) ?_
    refine AnyE.dec tok hO (by rfl) (by cbv <;> rfl) (by trivial) (fun h2 => ?_) (fun h2 => ?_)
    rotate_left
    · exfalso; subst hO; simp [std] at h2; omega
    refine AnyE.run tok hO (by rfl) (by cbv <;> rfl) (by trivial) ?_
    refine AnyE.many [12, 16] (by cbv <;> rfl) (by rfl) ⟨?_, ?_, trivial⟩
    · skip
      refine PickE.callQ e2 (by cbv <;> rfl) (by cbv <;> rfl) ?_ ?_
      · exact (by repeat (first | exact trivial | refine And.intro (by first | exact lv_of hO (by cbv <;> rfl) (by trivial) | (cbv <;> rfl)) ?_))
      refine AnyE.run tok hO (by rfl) (by cbv <;> rfl) (by trivial) ?_
      refine AnyE.effK tok hO (by cbv <;> rfl) (by cbv <;> rfl) (by trivial) ?_ ?_
      · exact (by repeat (first | exact trivial | refine And.intro (by first | exact lv_of hO (by cbv <;> rfl) (by trivial) | (cbv <;> rfl)) ?_))
      refine AnyE.run tok hO (by rfl) (by cbv <;> rfl) (by trivial) ?_
      refine AnyE.effK tok hO (by cbv <;> rfl) (by cbv <;> rfl) (by trivial) ?_ ?_
      · exact (by repeat (first | exact trivial | refine And.intro (by first | exact lv_of hO (by cbv <;> rfl) (by trivial) | (cbv <;> rfl)) ?_))
      refine AnyE.run tok hO (by rfl) (by cbv <;> rfl) (by trivial) ?_
      refine ⟨tabR [(1, 1)], ⟨⟨58, getT [(1, iV w), (2, iV n), (3, .ptr 0 0), (8, .ptr 1 0), (9, iV 11)]⟩, []⟩, tkZ d, ?_, rfl, _, rfl, ⟨rfl, rfl, rfl, rfl, rfl, trivial⟩, rfl⟩
      exact WeakR.tab rfl rfl (by simp) (by rfl) (by show 1 ≤ 2; omega) (by rfl) ⟨RenV.closed Below.lit, RenV.closed Below.lit, RenV.ptr (by omega), RenV.ptr (by omega), RenV.closed Below.lit, trivial⟩ ⟨⟨by omega, _, rfl, .cells (RenVs.closed (AllB.ok ⟨Below.lit, Below.lit, Below.lit, Below.lit, Below.lit, Below.lit, Below.lit, trivial⟩)), rfl⟩, ⟨by omega, _, rfl, .cells (RenVs.closed (dayC_below d)), rfl⟩, trivial⟩
    · refine PickE.effL tok hO (by cbv <;> rfl) (by cbv <;> rfl) (by trivial) ?_ ?_
      · exact (by repeat (first | exact trivial | refine And.intro (by first | exact LV.of (lv_of hO (by cbv <;> rfl) (by trivial)) | exact ⟨_, lv_of hO (by cbv <;> rfl) (by trivial), Eqv.lit h1⟩ | exact ⟨_, lv_of hO (by cbv <;> rfl) (by trivial), Eqv.lit h2⟩) ?_))
      refine AnyE.run tok hO (by rfl) (by cbv <;> rfl) (by trivial) ?_
      refine AnyE.many [12] (by cbv <;> rfl) (by rfl) ⟨?_, trivial⟩
      refine PickE.callQ e2 (by cbv <;> rfl) (by cbv <;> rfl) ?_ ?_
      · exact (by repeat (first | exact trivial | refine And.intro (by first | exact lv_of hO (by cbv <;> rfl) (by trivial) | (cbv <;> rfl)) ?_))
      refine AnyE.run tok hO (by rfl) (by cbv <;> rfl) (by trivial) ?_
      refine AnyE.effK tok hO (by cbv <;> rfl) (by cbv <;> rfl) (by trivial) ?_ ?_
      · exact (by repeat (first | exact trivial | refine And.intro (by first | exact lv_of hO (by cbv <;> rfl) (by trivial) | (cbv <;> rfl)) ?_))
      refine AnyE.run tok hO (by rfl) (by cbv <;> rfl) (by trivial) ?_
      refine ⟨tabR [(1, 1)], ⟨⟨58, getT [(1, iV w), (2, iV n), (3, .ptr 0 0), (8, .ptr 1 0), (9, iV 11)]⟩, []⟩, tkZ d, ?_, rfl, _, rfl, ⟨rfl, rfl, rfl, rfl, rfl, trivial⟩, rfl⟩
      exact WeakR.tab rfl rfl (by simp) (by rfl) (by show 1 ≤ 2; omega) (by rfl) ⟨RenV.closed Below.lit, RenV.closed Below.lit, RenV.ptr (by omega), RenV.ptr (by omega), RenV.closed Below.lit, trivial⟩ ⟨⟨by omega, _, rfl, .cells (RenVs.closed (AllB.ok ⟨Below.lit, Below.lit, Below.lit, Below.lit, Below.lit, Below.lit, Below.lit, trivial⟩)), rfl⟩, ⟨by omega, _, rfl, .cells (RenVs.closed (dayC_below d)), rfl⟩, trivial⟩
  · refine PickE.eff tok hO (by cbv <;> rfl) (by cbv <;> rfl) (by trivial) ?_ ?_
    · exact (by repeat (first | exact trivial | refine And.intro (by first | exact lv_of hO (by cbv <;> rfl) (by trivial) | (cbv <;> rfl)) ?_))
    refine AnyE.run tok hO (by rfl) (by cbv <;> rfl) (by trivial) ?_
    refine AnyE.many [3] (by cbv <;> rfl) (by rfl) ⟨?_, trivial⟩
    refine PickE.callQ e1 (by cbv <;> rfl) (by cbv <;> rfl) ?_ ?_
    · exact (by repeat (first | exact trivial | refine And.intro (by first | exact lv_of hO (by cbv <;> rfl) (by trivial) | (cbv <;> rfl)) ?_))
    refine AnyE.run tok hO (by rfl) (by cbv <;> rfl) (by trivial) ?_
    refine AnyE.dec tok hO (by rfl) (by cbv <;> rfl) (by trivial) (fun h1 => ?_) (fun h1 => ?_)
    rotate_left
    · exfalso; subst hO; simp [std] at h1; omega
    refine AnyE.run tok hO (by rfl) (by cbv <;> rfl) (by trivial) ?_
    refine AnyE.dec tok hO (by rfl) (by cbv <;> rfl) (by trivial) (fun h2 => ?_) (fun h2 => ?_)
    rotate_left
    · exfalso; subst hO; simp [std] at h2; omega
    refine AnyE.run tok hO (by rfl) (by cbv <;> rfl) (by trivial) ?_
    refine AnyE.many [12] (by cbv <;> rfl) (by rfl) ⟨?_, trivial⟩
    refine PickE.callQ e2 (by cbv <;> rfl) (by cbv <;> rfl) ?_ ?_
    · exact (by repeat (first | exact trivial | refine And.intro (by first | exact lv_of hO (by cbv <;> rfl) (by trivial) | (cbv <;> rfl)) ?_))
    refine AnyE.run tok hO (by rfl) (by cbv <;> rfl) (by trivial) ?_
    refine AnyE.effK tok hO (by cbv <;> rfl) (by cbv <;> rfl) (by trivial) ?_ ?_
    · exact (by repeat (first | exact trivial | refine And.intro (by first | exact lv_of hO (by cbv <;> rfl) (by trivial) | (cbv <;> rfl)) ?_))
    refine AnyE.run tok hO (by rfl) (by cbv <;> rfl) (by trivial) ?_
    refine ⟨tabR [(1, 1)], ⟨⟨58, getT [(1, iV w), (2, iV n), (3, .ptr 0 0), (8, .ptr 1 0), (9, iV 11)]⟩, []⟩, tkZ d, ?_, rfl, _, rfl, ⟨rfl, rfl, rfl, rfl, rfl, trivial⟩, rfl⟩
    exact WeakR.tab rfl rfl (by simp) (by rfl) (by show 1 ≤ 2; omega) (by rfl) ⟨RenV.closed Below.lit, RenV.closed Below.lit, RenV.ptr (by omega), RenV.ptr (by omega), RenV.closed Below.lit, trivial⟩ ⟨⟨by omega, _, rfl, .cells (RenVs.closed (AllB.ok ⟨Below.lit, Below.lit, Below.lit, Below.lit, Below.lit, Below.lit, Below.lit, trivial⟩)), rfl⟩, ⟨by omega, _, rfl, .cells (RenVs.closed (dayC_below d)), rfl⟩, trivial⟩
set_option maxHeartbeats 8000000 in
theorem thicker_none (d : DayD) (w : Nat) (n : Int) (hn : 0 ≤ n ∧ n ≤ 60)
    (e1 : Pure Try.prog 73 [dayV d, iV w] (.lit (.bool true))) (e2 : Pure Try.prog 57 [dayV d, .lit (.bool true)] (.tup [.agg stZ, iV 11])) :
    Pure Try.prog 23 [dayV d, iV w, iV n] (.tup [iV 0, iV 11]) := by
  obtain ⟨O, hO⟩ : ∃ O : Ar, O = std := ⟨_, rfl⟩
  refine pure_of_body tok 3 Try.func23 en23 rfl ⟨dayV_below d, Below.lit, Below.lit, trivial⟩ (Below.tup (AllB.ok ⟨Below.lit, Below.lit, trivial⟩)) ?_
  refine SW.seqRun tok hO (by cbv <;> rfl) (by trivial) ?_
  refine SW.seq ((thicker_z d w n hn e1 e2 _ ⟨rfl, rfl, rfl, trivial⟩).mono fun e f st hm => ?_)
  obtain ⟨rfl, g, rfl, ⟨g1, g2, g3, g8, g9, _⟩, rfl⟩ := hm
  simp only at g1 g2 g3 g8 g9
  rw [← updT_self g1, ← updT_self g2, ← updT_self g8, ← updT_self g9]
  show SW _ _ _ _ _ _
  refine SW.seq ?_
  refine SW.seqRun tok hO (by cbv <;> rfl) (by trivial) ?_
  refine SW.condS (by cbv <;> rfl) (fun h1 => ?_) (fun h1 => ?_)
  · refine SW.seqRun tok hO (by cbv <;> rfl) (by trivial) ?_
    exact SW.ret ⟨_, _, rfl, rfl, Eqv.of rfl⟩
  · exfalso
    subst hO; simp [std] at h1
def DayD.thick (d : DayD) (w : Nat) (n : Int) : Int := if d.seen.outs = [] then 0 else verdict (fun i => decide (n < nthF d.seen.outs i w)) d.seen.outs.length
def DayD.thickE (d : DayD) : Int := if d.seen.outs = [] then 11 else 0
theorem foldE_outs (d : DayD) (hc : d.check = 0) : d.seen.outs.length ≤ 2000 := by
  have h1 := foldE_len (stNx d) (fun a => a.outs.length) (d.nw + d.nl) d.ulo d.uhi (fun a f => next_len d a f) (d.nw + d.nl) 0 (fun _ => 0) pr0
  have h2 := cnt_small hc
  have h3 : pr0.outs.length = 0 := rfl
  have h4 : d.seen.outs.length ≤ pr0.outs.length + cntE d.ulo d.uhi (d.nw + d.nl) 0 := h1
  omega
theorem thicker_ok (d : DayD) (hs : d.small) (hc : d.check = 0) (w : Nat) (hw : w < d.nw) (n : Int) (hn : 0 ≤ n ∧ n ≤ 60) : Pure Try.prog 23 [dayV d, iV w, iV n] (.tup [iV (d.thick w n), iV d.thickE]) := by
  have e1 : Pure Try.prog 73 [dayV d, iV w] (.lit (.bool true)) := (hasWoman_ok d w).res (Eqv.lit (by
    simp only [DayD.hasW, Bool.and_eq_true, decide_eq_true_eq]
    omega))
  cases ho : d.seen.outs with
  | nil =>
    have h1 : d.thick w n = 0 := if_pos ho
    have h2 : d.thickE = 11 := if_pos ho
    rw [h1, h2]
    exact thicker_none d w n hn e1 (open_none d hs hc ho)
  | cons f l =>
    have hlen := foldE_outs d hc
    rw [ho] at hlen
    have hne : d.seen.outs ≠ [] := fun e => by rw [ho] at e; cases e
    have h1 : d.thick w n = verdict (fun i => decide (n < nthF (f :: l) i w)) (l.length + 1) := by
      unfold DayD.thick
      rw [if_neg hne, ho]; rfl
    have h2 : d.thickE = 0 := if_neg hne
    rw [h1, h2]
    have e2 := open_ok d hs hc f l ho
    have hW : workM d (f :: l) = fun k => .agg [iV d.hand, iV d.flat, womsV d, lotsV d, cntsV d, .isl (l.length + 1) 8 false (outG d (f :: l)), .mp k] := rfl
    rw [hW, outG_X] at e2
    exact thicker_core d w n hw hn (l.length + 1) _ _ _ _ _ _ _ _ _ _ (by have : (f :: l).length = l.length + 1 := rfl; omega) e1 e2
end Go.Fz
namespace Go.Fz
section
variable {P : Program} {T : Ti}
def esOf (st : St) (a : AV) : Option (Nat × List (AV × AV × Nat) × Nat) := match a with
  | .mp id => match st.h.get id with
    | some (.map es clock) => some (id, es, clock)
    | _ => none
  | _ => none
theorem esOf_ok {φ : Fi} {st : St} {w : World} {a : AV} {u : Value} {id clock : Nat} {es : List (AV × AV × Nat)} (hr : Rel φ st w) (ha : VR φ a u) (h : esOf st a = some (id, es, clock)) :
    u = .map (some (φ.f id).b) ∧ id < φ.n ∧ st.h.get id = some (.map es clock) ∧ ∃ ces : Array MapEntry, w.heap[(φ.f id).b]? = some (.map ces clock) ∧ ces.size = es.length ∧
      ∀ (i : Nat) (x : AV × AV × Nat), es[i]? = some x → ∃ e, ces[i]? = some e ∧ VR φ x.1 e.key ∧ VR φ x.2.1 e.val ∧ e.born = x.2.2 := by
  unfold esOf at h
  split at h
  · rename_i id'
    split at h
    · rename_i es' clock' ho
      cases h
      obtain ⟨h1, h2⟩ := ha.mp_inv
      exact ⟨h1, h2, ho, hr.obj _ _ ho⟩
    · cases h
  · cases h
def itOf (st : St) (a : AV) : Option (Nat × Nat × Nat × List Nat × Nat) := match a with
  | .ptr rid 0 => match st.h.get rid with
    | some (.iter mid since seen last) => some (rid, mid, since, seen, last)
    | _ => none
  | _ => none
theorem itOf_ok {φ : Fi} {st : St} {w : World} {a : AV} {u : Value} {rid mid since last : Nat} {seen : List Nat} (hr : Rel φ st w) (ha : VR φ a u) (h : itOf st a = some (rid, mid, since, seen, last)) :
    u = .pointer (some ⟨(φ.f rid).b, 0, none⟩) ∧ st.h.get rid = some (.iter mid since seen last) ∧ w.heap[(φ.f rid).b]? = some (.mapIter (some (φ.f mid).b) since seen.toArray last) ∧ (φ.f rid).o = 0 ∧ mid < φ.n := by
  unfold itOf at h
  split at h
  · rename_i rid'
    split at h
    · rename_i mid' since' seen' last' ho
      cases h
      obtain ⟨h1, h2⟩ := ha.ptr_inv
      obtain ⟨h3, h4, h5⟩ := hr.obj _ _ ho
      exact ⟨by rw [h1, h4], ho, h3, h4, h5⟩
    · cases h
  · cases h
def bornsOk (es : List (AV × AV × Nat)) : Bool := decide ((es.map fun x => x.2.2).Nodup)
theorem range_ok {hT : TOk P T} {φ : Fi} {st : St} {w : World} {t kt : TypeId} {a : AV} {u : Value} {id clock : Nat} {es : List (AV × AV × Nat)} (hr : Rel φ st w) (ha : VR φ a u) (hd : mapD T t = some kt) (h : esOf st a = some (id, es, clock)) :
    ∃ φ' w' v, (Instr.range t u).run P w = .ok v w' ∧ VR φ' (.ptr st.n 0) v ∧ Rel φ' (st.push (.iter id clock [] clock)) w' ∧ Ext φ φ' ∧ Fr φ st w φ' (st.push (.iter id clock [] clock)) w' := by
  obtain ⟨e, hu⟩ := mapD_ok hT hd
  obtain ⟨rfl, hid, ho, ces, hb, hsz, hes⟩ := esOf_ok hr ha h
  have hrun := run_range_map (P := P) w t kt e (φ.f id).b ces clock hu hb
  have hp := hr.push (.mapIter (some (φ.f id).b) clock #[] clock) (.iter id clock [] clock) ⟨w.heap.size, 0, 0⟩ rfl (by
    refine ⟨?_, by rw [Fi.push_new], by rw [Fi.push_n]; exact Nat.lt_succ_of_lt hid⟩
    rw [Fi.push_new, (φ.push_ext _).f id hid]
    exact alloc_heap_new' w _) (fun _ h => by cases h)
  refine ⟨_, _, _, hrun, ?_, hp.1, φ.push_ext _, hp.2⟩
  have hv := VR.ptr (φ := φ.push ⟨w.heap.size, 0, 0⟩) φ.n 0 (by rw [Fi.push_n]; omega)
  rw [Fi.push_new] at hv
  rw [← hr.n]
  exact hv
theorem leftE_ok {φ : Fi} {es : List (AV × AV × Nat)} {ces : Array MapEntry} {seen : List Nat} (hsz : ces.size = es.length) (hes : ∀ (i : Nat) (x : AV × AV × Nat), es[i]? = some x → ∃ e, ces[i]? = some e ∧ VR φ x.1 e.key ∧ VR φ x.2.1 e.val ∧ e.born = x.2.2) {e : MapEntry} (he : e ∈ ces.toList) :
    ∃ x ∈ es, VR φ x.1 e.key ∧ VR φ x.2.1 e.val ∧ e.born = x.2.2 := by
  obtain ⟨i, hi, he2⟩ := List.getElem_of_mem he
  have hil : i < es.length := by rw [← hsz]; simpa using hi
  obtain ⟨e', h1, h2, h3, h4⟩ := hes i es[i] (List.getElem?_eq_getElem hil)
  have : e' = e := by
    rw [← Array.getElem?_toList, List.getElem?_eq_getElem hi, he2] at h1
    exact (Option.some.inj h1).symm
  subst this
  exact ⟨es[i], List.getElem_mem hil, h2, h3, h4⟩
theorem rightE_ok {φ : Fi} {es : List (AV × AV × Nat)} {ces : Array MapEntry} (hes : ∀ (i : Nat) (x : AV × AV × Nat), es[i]? = some x → ∃ e, ces[i]? = some e ∧ VR φ x.1 e.key ∧ VR φ x.2.1 e.val ∧ e.born = x.2.2) {x : AV × AV × Nat} (hx : x ∈ es) :
    ∃ e ∈ ces.toList, VR φ x.1 e.key ∧ VR φ x.2.1 e.val ∧ e.born = x.2.2 := by
  obtain ⟨i, hi, rfl⟩ := List.getElem_of_mem hx
  obtain ⟨e, h1, h2⟩ := hes i _ (List.getElem?_eq_getElem hi)
  rw [← Array.getElem?_toList] at h1
  exact ⟨e, List.mem_of_getElem? h1, h2⟩
theorem setHeapW_ok {φ : Fi} {st : St} {w : World} (hr : Rel φ st w) {id : Nat} {o o' : AObj} (ho : st.h.get id = some o) (hown : o.own = true) (hfam : o.fam = none) (hfam' : o'.fam = none) (co : Obj) (w0 : World) (hw0 : w0 = w ∨ w0 = w.drew) (hobj : ∀ w' : World, w'.heap[(φ.f id).b]? = some co → ObjR φ w' id o') :
    Rel φ ⟨st.h.set id o', st.n⟩ { w0 with heap := w0.heap.setIfInBounds (φ.f id).b co } ∧ Fr φ st w φ ⟨st.h.set id o', st.n⟩ { w0 with heap := w0.heap.setIfInBounds (φ.f id).b co } := by
  have hb := hr.blk id o ho
  have hh : w0.heap = w.heap := by rcases hw0 with rfl | rfl <;> rfl
  have h1 : w0.os = w.os ∧ w0.tape = w.tape ∧ w0.output = w.output := by rcases hw0 with rfl | rfl <;> exact ⟨rfl, rfl, rfl⟩
  refine hr.turn ho hown hfam hfam' h1.1 h1.2.1 h1.2.2 (by simp [hh]) (fun k hk => ?_) (hobj _ ?_)
  · simp only [hh]; rw [Array.getElem?_setIfInBounds_ne (Ne.symm hk)]
  · simp only [hh]; simp [hb]
theorem next_ok {φ : Fi} {st : St} {w : World} {ty : TypeId} {a : AV} {u : Value} {rid mid since last id clock : Nat} {seen : List Nat} {es : List (AV × AV × Nat)} (hr : Rel φ st w) (ha : VR φ a u) (h : itOf st a = some (rid, mid, since, seen, last)) (he : esOf st (.mp mid) = some (id, es, clock))
    (hc : (es.all (fun x => Nat.blt x.2.2 since) && Nat.ble since last) = true) :
    ((es.filter fun x => !(seen.contains x.2.2)) = [] ∧ (Instr.next u false ty).run P w = .ok (.tuple #[.bool false]) w) ∨
    ∃ x ∈ (es.filter fun x => !(seen.contains x.2.2)), ∃ w' v, (Instr.next u false ty).run P w = .ok v w' ∧ VR φ (.tup [.lit (.bool true), x.1, x.2.1]) v ∧
      Rel φ ⟨st.h.set rid (.iter mid since (seen ++ [x.2.2]) clock), st.n⟩ w' ∧ Fr φ st w φ ⟨st.h.set rid (.iter mid since (seen ++ [x.2.2]) clock), st.n⟩ w' := by
  obtain ⟨rfl, ho, hit, h0, hmid⟩ := itOf_ok hr ha h
  obtain ⟨hu, hid, hom, ces, hb, hsz, hes⟩ := esOf_ok hr (VR.mp mid hmid) he
  have hbb : (φ.f id).b = (φ.f mid).b := by simp only [Value.map.injEq, Option.some.injEq] at hu; exact hu.symm
  rw [hbb] at hb
  simp only [Bool.and_eq_true] at hc
  have hold : ∀ x ∈ ces.toList, x.born < since := fun e hem => by
    obtain ⟨x, hx, _, _, h4⟩ := leftE_ok (seen := []) hsz hes hem
    rw [h4]
    exact Nat.le_of_ble_eq_true (List.all_eq_true.1 hc.1 x hx)
  rcases run_next_at (P := P) w ty (φ.f rid).b (φ.f mid).b since last seen.toArray ces clock hit hb hold (Nat.le_of_ble_eq_true hc.2) with ⟨h1, h2⟩ | ⟨e, hel, w1, hw1, hrun⟩
  · left
    refine ⟨?_, h2⟩
    rw [List.filter_eq_nil_iff]
    intro x hx hns
    obtain ⟨e, hem, _, _, h4⟩ := rightE_ok hes hx
    have h5 : leftOf ces seen.toArray = #[] := Array.eq_empty_of_size_eq_zero h1
    unfold leftOf at h5
    rw [Array.filter_eq_empty_iff] at h5
    have := h5 e (Array.mem_toList_iff.1 hem)
    rw [h4] at this
    simp at this hns
    exact hns this
  · right
    unfold leftOf at hel
    have hel2 : e ∈ ces.toList ∧ seen.contains e.born = false := by simpa using hel
    obtain ⟨x, hx, h2, h3, h4⟩ := leftE_ok (seen := []) hsz hes hel2.1
    refine ⟨x, List.mem_filter.2 ⟨hx, by rw [← h4]; show (!seen.contains e.born) = true; rw [hel2.2]; rfl⟩, _, _, hrun, ?_, ?_⟩
    · exact .tup (us := [.bool true, e.key, e.val]) (.cons (.lit _) (.cons h2 (.cons h3 .nil)))
    · have := setHeapW_ok (o' := .iter mid since (seen ++ [x.2.2]) clock) hr ho rfl rfl rfl (.mapIter (some (φ.f mid).b) since (seen.toArray.push e.born) clock) w1 hw1 (fun w' hw' => ⟨by rw [hw', h4]; simp, h0, hmid⟩)
      exact this
theorem entry_ok {φ : Fi} {st : St} {w : World} {a : AV} {u : Value} {rid mid since last id clock s : Nat} {seen : List Nat} {es : List (AV × AV × Nat)} {x : AV × AV × Nat} (hr : Rel φ st w) (ha : VR φ a u) (h : itOf st a = some (rid, mid, since, seen, last)) (he : esOf st (.mp mid) = some (id, es, clock))
    (hs : seen.getLast? = some s) (hc : (Nat.beq clock last && bornsOk es) = true) (hf : es.filter (fun x => Nat.beq x.2.2 s) = [x]) :
    ∃ v, (Instr.entry u).run P w = .ok v w ∧ VR φ (.tup [x.1, x.2.1]) v := by
  obtain ⟨rfl, ho, hit, h0, hmid⟩ := itOf_ok hr ha h
  obtain ⟨hu, hid, hom, ces, hb, hsz, hes⟩ := esOf_ok hr (VR.mp mid hmid) he
  have hbb : (φ.f id).b = (φ.f mid).b := by simp only [Value.map.injEq, Option.some.injEq] at hu; exact hu.symm
  rw [hbb] at hb
  simp only [Bool.and_eq_true, bornsOk, decide_eq_true_eq] at hc
  have hcl := Nat.eq_of_beq_eq_true hc.1
  have hxm : x ∈ es.filter (fun x => Nat.beq x.2.2 s) := by rw [hf]; simp
  rw [List.mem_filter] at hxm
  have hxs := Nat.eq_of_beq_eq_true hxm.2
  obtain ⟨e, hem, h2, h3, h4⟩ := rightE_ok hes hxm.1
  have hborns : ces.toList.map (·.born) = es.map fun x => x.2.2 := by
    apply List.ext_getElem
    · simp [hsz]
    · intro i h1 h2
      simp only [List.length_map] at h1 h2
      obtain ⟨e, k1, _, _, k4⟩ := hes i es[i] (List.getElem?_eq_getElem h2)
      rw [List.getElem_map, List.getElem_map, ← k4]
      rw [← Array.getElem?_toList, List.getElem?_eq_getElem h1] at k1
      rw [Option.some.inj k1]
  have hseen : seen.toArray = seen.dropLast.toArray.push e.born := by
    obtain ⟨ys, hys⟩ := List.getLast?_eq_some_iff.1 hs
    rw [h4, hxs]
    subst hys
    simp
  have hrun := run_entry_at (P := P) w (φ.f rid).b (φ.f mid).b since seen.dropLast.toArray ces clock e (by rw [← hseen, hcl]; exact hit) hb hem (by rw [hborns]; exact hc.2)
  exact ⟨_, hrun, .tup (us := [e.key, e.val]) (.cons h2 (.cons h3 .nil))⟩
def rngAt (ops : Array Oper) (i : Nat) (f : Fm) : Option (TypeId × AV) := match ops[i]? with
  | none => none
  | some o => match wantA ops f.ts o with
    | some true => match o.op with
      | .range t x => some (t, Operand.av f.ts x)
      | _ => none
    | _ => none
theorem OpsW.range (hT : TOk P T) {rd : Option Nat} {ops : Array Oper} {L : Fm → St → Prop} {f : Fm} {st : St} {i : Nat} {l : List Nat} {t kt : TypeId} {a : AV} {id clock : Nat} {es : List (AV × AV × Nat)}
    (hx : rngAt ops i f = some (t, a)) (hd : mapD T t = some kt) (he : esOf st a = some (id, es, clock)) (h : OpsW P rd ops l L (putAt ops i f (.ptr st.n 0)) (st.push (.iter id clock [] clock))) : OpsW P rd ops (i :: l) L f st := by
  unfold rngAt at hx
  split at hx
  · cases hx
  · rename_i o ho
    split at hx
    · rename_i hw
      split at hx
      · rename_i t' x hop
        simp only [Option.some.injEq, Prod.mk.injEq] at hx
        obtain ⟨rfl, e2⟩ := hx
        have hput : ∀ v, putAt ops i f v = f.put o.dst v := fun v => by simp [putAt, ho]
        rw [hput] at h
        refine OpsW.value ho hw (fun c hc => by rw [hop] at hc; cases hc) (fun φ w a h2 h3 => ?_) h
        have a1 := opR_of h3.ts x
        rw [e2] at a1
        obtain ⟨φ', w', v, k1, k2, k3, k4, k5⟩ := range_ok (hT := hT) h2 a1 hd he
        exact ⟨φ', w', v, .inl (by simp [execOp, hop, k1, Result.andThen]), k2, k3, k4, k5⟩
      · cases hx
    · cases hx
end
end Go.Fz
namespace Go.Fz
open Go.Proofs
set_option maxRecDepth 100000
section
variable {α : Type} {next : α → (Nat → Int) → α} {N : Nat} {lo hi : Nat → Int}
theorem foldV_inv {I : α → Prop} {F : Int → α → α} (h : ∀ v a, I a → I (F v a)) (l : Int) {a : α} (ha : I a) : ∀ c, I (foldV F l c a)
  | 0 => ha
  | c + 1 => h _ _ (foldV_inv h l ha c)
theorem foldE_inv {I : α → Prop} (h : ∀ a f, I a → I (next a f)) : ∀ (j i : Nat) (f : Nat → Int) {a : α}, I a → I (foldE next N lo hi j i f a)
  | 0, _, f, a, ha => h a _ ha
  | j + 1, i, _, _, ha => foldV_inv (fun _ _ hb => foldE_inv h j (i + 1) _ hb) _ ha _
theorem foldV_ex {S : α → Prop} {F : Int → α → α} {G : Int → Prop} (h : ∀ v a, S (F v a) ↔ S a ∨ G v) (l : Int) (a : α) : ∀ c, S (foldV F l c a) ↔ S a ∨ ∃ v, l ≤ v ∧ v < l + (c : Nat) ∧ G v
  | 0 => ⟨.inl, fun h => h.elim id fun ⟨v, h1, h2, _⟩ => by omega⟩
  | c + 1 => by
    show S (F _ _) ↔ _
    rw [h, foldV_ex h l a c]
    constructor
    · rintro ((h1 | ⟨v, h1, h2, h3⟩) | h1)
      · exact .inl h1
      · exact .inr ⟨v, h1, by omega, h3⟩
      · exact .inr ⟨l + c, by omega, by omega, h1⟩
    · rintro (h1 | ⟨v, h1, h2, h3⟩)
      · exact .inl (.inl h1)
      · by_cases e : v = l + c
        · exact .inr (e ▸ h3)
        · exact .inl (.inr ⟨v, h1, by omega, h3⟩)
theorem foldE_ex {S : α → Prop} {g : (Nat → Int) → Prop} (h : ∀ a f, S (next a f) ↔ S a ∨ g f) : ∀ (j i : Nat) (f : Nat → Int) (a : α), i + j = N →
    (S (foldE next N lo hi j i f a) ↔ S a ∨ ∃ t, (∀ m, m < i → t m = f m) ∧ (∀ m, i ≤ m → m < N → lo m ≤ t m ∧ t m ≤ hi m) ∧ g (cutF N t))
  | 0, i, f, a, e => by
    show S (next a (cutF N f)) ↔ _
    rw [h]
    constructor
    · rintro (h1 | h1)
      · exact .inl h1
      · exact .inr ⟨f, fun _ _ => rfl, fun m h2 h3 => by omega, h1⟩
    · rintro (h1 | ⟨t, h1, _, h2⟩)
      · exact .inl h1
      · rw [cutF_congr (fun m hm => h1 m (by omega))] at h2
        exact .inr h2
  | j + 1, i, f, a, e => by
    have ih := fun v (b : α) => foldE_ex h j (i + 1) (setI f i v) b (by omega)
    have h2 := foldV_ex (S := S) (F := fun v b => foldE next N lo hi j (i + 1) (setI f i v) b) (G := fun v => ∃ t, (∀ m, m < i + 1 → t m = setI f i v m) ∧ (∀ m, i + 1 ≤ m → m < N → lo m ≤ t m ∧ t m ≤ hi m) ∧ g (cutF N t)) (fun v b => ih v b) (lo i) a (hi i - lo i + 1).toNat
    show S (foldV _ _ _ a) ↔ _
    rw [h2]
    constructor
    · rintro (h1 | ⟨v, k1, k2, t, k3, k4, k5⟩)
      · exact .inl h1
      · refine .inr ⟨t, fun m hm => ?_, fun m h3 h4 => ?_, k5⟩
        · rw [k3 m (by omega), setI_ne (by omega)]
        · by_cases em : m = i
          · subst em
            rw [k3 m (by omega), setI_self]; omega
          · exact k4 m (by omega) h4
    · rintro (h1 | ⟨t, k3, k4, k5⟩)
      · exact .inl h1
      · have hti := k4 i (Nat.le_refl _) (by omega)
        refine .inr ⟨t i, hti.1, by omega, t, fun m hm => ?_, fun m h3 h4 => k4 m (by omega) h4, k5⟩
        by_cases em : m = i
        · subst em; rw [setI_self]
        · rw [setI_ne em]; exact k3 m (by omega)
end
def DayD.inR (d : DayD) (f : Nat → Int) : Prop := ∀ m, m < d.nw + d.nl → d.ulo m ≤ f m ∧ f m ≤ d.uhi m
theorem seen_ex {d : DayD} {S : Pr → Prop} {g : (Nat → Int) → Prop} (h : ∀ a f, S (stNx d a f) ↔ S a ∨ g f) : S d.seen ↔ S pr0 ∨ ∃ t, d.inR t ∧ g (cutF (d.nw + d.nl) t) := by
  unfold DayD.seen
  rw [foldE_ex h _ _ _ _ (by omega)]
  constructor
  · rintro (h1 | ⟨t, _, h2, h3⟩)
    · exact .inl h1
    · exact .inr ⟨t, fun m hm => h2 m (Nat.zero_le _) hm, h3⟩
  · rintro (h1 | ⟨t, h2, h3⟩)
    · exact .inl h1
    · exact .inr ⟨t, fun m hm => absurd hm (Nat.not_lt_zero m), fun m _ hm => h2 m hm, h3⟩
theorem seen_key (d : DayD) (b : Mk) : b ∈ d.seen.E.map (·.1) ↔ ∃ t, d.inR t ∧ wrongOf d (cutF (d.nw + d.nl) t) = b := by
  rw [seen_ex (S := fun a => b ∈ a.E.map (·.1)) (g := fun f => wrongOf d f = b) fun a f => by
    show b ∈ (updE _ _ _).map (·.1) ↔ _
    rw [updE_mem]
    exact ⟨fun h => h.imp id Eq.symm, fun h => h.imp id Eq.symm⟩]
  exact ⟨fun h => h.elim (fun h => by cases h) id, .inr⟩
theorem seen_out (d : DayD) (f : Nat → Int) : f ∈ d.seen.outs ↔ ∃ t, d.inR t ∧ cutF (d.nw + d.nl) t = f ∧ wrongOf d f = noMk := by
  rw [seen_ex (S := fun a => f ∈ a.outs) (g := fun t => t = f ∧ wrongOf d f = noMk) fun a t => by
    show f ∈ (if wrongOf d t = noMk then a.outs ++ [t] else a.outs) ↔ _
    by_cases h : wrongOf d t = noMk
    · rw [if_pos h, List.mem_append, List.mem_singleton]
      exact ⟨fun k => k.imp id fun e => ⟨e.symm, by rw [e]; exact h⟩, fun k => k.imp id fun e => e.1.symm⟩
    · rw [if_neg h]
      exact ⟨.inl, fun k => k.elim id fun e => absurd (by rw [e.1]; exact e.2) h⟩]
  constructor
  · rintro (h | ⟨t, h1, h2, h3⟩)
    · cases h
    · exact ⟨t, h1, h2, h3⟩
  · rintro ⟨t, h1, h2, h3⟩
    exact .inr ⟨t, h1, h2, h3⟩
def Born (E : List (Mk × Nat)) (c : Nat) : Prop := (∀ p ∈ E, p.2 < c) ∧ (E.map (·.2)).Nodup
theorem Born.upd {E : List (Mk × Nat)} {c : Nat} (h : Born E c) (b : Mk) : Born (updE E b c) (updC E b c) := by
  unfold updE updC
  split
  · exact h
  · refine ⟨fun p hp => ?_, ?_⟩
    · rcases List.mem_append.1 hp with hp | hp
      · have := h.1 p hp; omega
      · obtain rfl := List.mem_singleton.1 hp
        show c < c + 1; omega
    · rw [List.map_append, List.nodup_append]
      refine ⟨h.2, by simp, fun x hx y hy => ?_⟩
      obtain ⟨p, hp, rfl⟩ := List.mem_map.1 hx
      have := h.1 p hp
      simp at hy
      omega
theorem seen_born (d : DayD) : Born d.seen.E d.seen.cl := foldE_inv (I := fun a : Pr => Born a.E a.cl) (fun a f h => h.upd _) _ _ _ ⟨(fun p hp => by cases hp), List.nodup_nil⟩
end Go.Fz
