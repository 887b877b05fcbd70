/- Own work of the verifier of watercress: FzB9. -/
import Derived.Test.YtpaifaemkoblcaaNa30
set_option linter.unusedVariables false
set_option linter.unusedSimpArgs false
set_option linter.unusedVariables false
namespace Go.Fz
open Go.Proofs
set_option maxRecDepth 100000
def lvK (f : FarmD) (s : List (List Nat)) (h : Hp) : Prop := (∀ l ∈ s, f.lvs l = false) ∧ h = lvH f (workC f noTr (f.k0 f.nb)) lvR nl3
def lvZ (f : FarmD) (s : List (List Nat)) (l : List Nat) (h : Hp) : Prop := (∀ l ∈ s, f.lvs l = false) ∧ f.lvs l = true ∧ h = lvH f (workC f noTr (f.k0 f.nb)) lvRx (zV (nI l))
set_option maxHeartbeats 8000000 in
theorem lv_step {f : FarmD} (g : f.Good) (hsm : f.small) : liStep (lvK f) (lvZ f) 37 (risL f.nl) := by
  intro s l post h hE ⟨hs, hh⟩
  subst hh
  obtain ⟨O, hO⟩ : ∃ O : Ar, O = std := ⟨_, rfl⟩
  have hns := g.ns
  have hnl := g.nl
  have hll := risL_len (show l ∈ risL f.nl by rw [hE]; simp)
  have hcw := workC_below' f 0 noTr (f.k0 f.nb) noTr_below
  have hch := choices130 (f := f) (K := lwK f l) (stop := lwS f l) (fc := 39) (y := 40) (E := f.chL) (by omega) (by omega) (by omega) (by omega) (fun s H ⟨_, h1⟩ => by
    subst h1
    exact ⟨lwH_low hcw (s := .busy) (c := none) (s2 := lwR.state) (c2 := lwR.pending) (zV_below _) Below.lit, fun q _ => ⟨none, false, rfl⟩⟩) (fun i hi => by have := (g.spring i hi).2; omega) (by omega) rfl (lw_step g hsm l (by omega)) (fun _ => lwH f (workC f noTr (f.k0 f.nb)) lvB (zV (nI l)) nl3 lwR) ⟨(fun _ h => nomatch h), rfl⟩ 41 (by omega)
  have hmono : ∀ st' : St, (∃ (H' : Nat → Hp) (q n : Nat), st' = ⟨H' q, n⟩ ∧ 49 ≤ n ∧ (q = 48 ∨ 49 ≤ q) ∧ q < n ∧ LowM 49 H' ∧ (lwK f l f.chL H' ∨ ∃ pre c post, f.chL = pre ++ c :: post ∧ lwS f l pre c H')) →
      ∃ n X r, st' = ⟨lwH f (workC f noTr (f.k0 f.nb)) lvB (zV (nI l)) X r, n⟩ ∧ 49 ≤ n ∧ ((f.lvs l = false ∧ X = nl3 ∧ r = lwR) ∨ (f.lvs l = true ∧ X = zV (nI l) ∧ r = lwRx)) := fun st' ⟨H', q, n, h1, h2, _, _, _, h6⟩ => by
    rcases h6 with ⟨h7, rfl⟩ | ⟨pre, c, post, h7, h8, rfl⟩
    · exact ⟨n, _, _, h1, h2, .inl ⟨List.any_eq_false.2 fun c hc => by rw [h7 c hc]; simp, rfl, rfl⟩⟩
    · exact ⟨n, _, _, h1, h2, .inr ⟨List.any_eq_true.2 ⟨c, by rw [h7]; simp, h8⟩, rfl, rfl⟩⟩
  have hch := hch.mono (k' := fun _ st' => ∃ n X r, st' = ⟨lwH f (workC f noTr (f.k0 f.nb)) lvB (zV (nI l)) X r, n⟩ ∧ 49 ≤ n ∧ ((f.lvs l = false ∧ X = nl3 ∧ r = lwR) ∨ (f.lvs l = true ∧ X = zV (nI l) ∧ r = lwRx))) fun _ st' h => hmono st' h
  clear hmono
  have hyes : f.lvs l = true → ∀ st' : St, 38 ≤ st'.n → (∀ id o, Hp.get (lvH f (workC f noTr (f.k0 f.nb)) lvRx (zV (nI l))) id = some o → st'.h.get id = some o) → ∃ h', liR (lvK f) (lvZ f) s l (.lit (.bool false)) h' ∧ Below 0 (AV.lit (.bool false)) ∧ LowX 38 h' ∧ 38 ≤ st'.n ∧ ∀ id o, Hp.get h' id = some o → st'.h.get id = some o := fun hq st' h1 h2 => ⟨_, .inr ⟨rfl, hs, hq, rfl⟩, Below.lit, lvH_low hcw (s := lvRx.state) (c := lvRx.pending) (zV_below _) (Nat.le_refl _), h1, h2⟩
  have hno : f.lvs l = false → ∀ st' : St, 38 ≤ st'.n → (∀ id o, Hp.get (lvH f (workC f noTr (f.k0 f.nb)) lvR nl3) id = some o → st'.h.get id = some o) → ∃ h', liR (lvK f) (lvZ f) s l (.lit (.bool true)) h' ∧ Below 0 (AV.lit (.bool true)) ∧ LowX 38 h' ∧ 38 ≤ st'.n ∧ ∀ id o, Hp.get h' id = some o → st'.h.get id = some o := fun hq st' h1 h2 => ⟨_, .inl ⟨rfl, fun l' hl' => by
      rcases List.mem_append.1 hl' with hl' | hl'
      · exact hs l' hl'
      · rw [List.mem_singleton.1 hl']; exact hq, rfl⟩, Below.lit, lvH_low hcw (s := lvR.state) (c := lvR.pending) Below.lit (Nat.le_refl _), h1, h2⟩
  obtain ⟨RR, hRR⟩ : ∃ r, liR (lvK f) (lvZ f) s l = r := ⟨_, rfl⟩
  rw [hRR] at hyes hno ⊢
  generalize f.lvs l = Q at hch hyes hno
  obtain ⟨KK, hKK⟩ : ∃ K, f.k0 f.nb = K := ⟨_, rfl⟩
  rw [hKK] at hch hyes hno ⊢
  obtain ⟨M2, FL2, hZ2⟩ : ∃ M fl, zV (nI l) = intsV M false fl := ⟨_, _, rfl⟩
  rw [hZ2] at hch hyes ⊢
  have hch2 : CallW Try.prog 130 [.yld 40, .ptr 39 0] ⟨lwH f (workC f noTr KK) lvB (intsV M2 false FL2) nl3 lwR, 41⟩ _ := hch
  unfold lwH lvH at hch2
  unfold lvH at hyes hno ⊢
  refine YieldW.of_round (r := lvR) rfl rfl ?_
  refine SW.run tok hO (by cbv <;> rfl) (by trivial) ?_
  refine ⟨lvR, rfl, rfl, SW.block ?_⟩
  obtain ⟨RB, hRB⟩ : ∃ r, lvB = r := ⟨_, rfl⟩
  rw [show ({ lvR with state := .busy } : ALoop) = RB from hRB]
  rw [hRB] at hch2
  refine SW.seqRun tok hO (by cbv <;> rfl) (by trivial) ?_
  refine OpsW.callS en96 (choices96 f _ _) (by cbv <;> rfl) fun r st' hk => ?_
  obtain ⟨rfl, rfl⟩ := hk
  refine OpsW.run tok hO (by cbv <;> rfl) (by trivial) ?_
  refine SW.block ?_
  refine (show SW _ _ _ _ _ ⟨(39, farmO f) :: (38, .cells none false [intsV M2 false FL2]) :: (37, .loop RB) :: (36, .dfr) :: (2, .cells none false [nl3]) :: (1, .cells none false (workC f noTr KK)) :: (0, .cells none false (farmL f)) :: [], 40⟩ from ?_)
  refine SW.fmT (len := 32) lwL rfl rfl ⟨⟨rfl, .inl rfl⟩, ⟨rfl, .inl rfl⟩, ⟨rfl, .inl rfl⟩, ⟨rfl, .inl rfl⟩, ⟨rfl, .inl rfl⟩, trivial⟩ (fun id o ho => by
    have := Hp.mem_of_get ho
    simp only [List.mem_cons, Prod.mk.injEq, List.not_mem_nil, or_false] at this
    omega) ?_
  refine SW.rangeFuncIn (r0 := RB) (gf := 130) (first := []) (caps := [.ptr 39 0]) rfl (by rfl) en130 ?_
  rw [show RB.dfid = 36 by rw [← hRB]; rfl]
  refine CallW.mono (show CallW Try.prog 130 [.yld 40, .ptr 39 0] ⟨(40, .loop lwR) :: (39, farmO f) :: (38, .cells none false [intsV M2 false FL2]) :: (37, .loop RB) :: (36, .dfr) :: (2, .cells none false [nl3]) :: (1, .cells none false (workC f noTr KK)) :: (0, .cells none false (farmL f)) :: [], 41⟩ _ from hch2) fun r st' hk => ?_
  obtain ⟨n, X, r2, rfl, hn, hk⟩ := hk
  rcases hk with ⟨hQ, rfl, rfl⟩ | ⟨hQ, rfl, rfl⟩
  · refine ⟨lwR, rfl, (fun h => by simp [lwR] at h), ?_⟩
    subst hRB
    exact ⟨_, rfl, hno hQ _ (by show 38 ≤ n; omega) fun id o ho => by
      have hm := Hp.mem_of_get ho
      simp only [List.mem_cons, List.not_mem_nil, or_false, Prod.mk.injEq] at hm
      rcases hm with ⟨rfl, rfl⟩ | ⟨rfl, rfl⟩ | ⟨rfl, rfl⟩ | ⟨rfl, rfl⟩ | ⟨rfl, rfl⟩ <;> rfl⟩
  · refine ⟨lwRx, rfl, (fun h => by simp [lwRx, lwR] at h), ?_⟩
    subst hRB
    refine SW.exit ?_
    exact ⟨_, rfl, hyes hQ _ (by show 38 ≤ n; omega) fun id o ho => by
      have hm := Hp.mem_of_get ho
      simp only [List.mem_cons, List.not_mem_nil, or_false, Prod.mk.injEq] at hm
      rcases hm with ⟨rfl, rfl⟩ | ⟨rfl, rfl⟩ | ⟨rfl, rfl⟩ | ⟨rfl, rfl⟩ | ⟨rfl, rfl⟩ <;> rfl⟩
def FarmD.lveL (f : FarmD) : AV := if f.check = 0 then (match (risL f.nl).find? f.lvs with | some l => zV (nI l) | none => nl3) else nl3
theorem FarmD.lveL_below (f : FarmD) : Below 0 f.lveL := by
  unfold FarmD.lveL
  split
  · split
    · exact zV_below _
    · exact Below.lit
  · exact Below.lit
set_option maxHeartbeats 16000000 in
theorem leave44 {f : FarmD} (hs : f.small) : Pure Try.prog 44 [farmV f] (.tup [f.lveL, iV f.check]) := by
  obtain ⟨O, hO⟩ : ∃ O : Ar, O = std := ⟨_, rfl⟩
  have e1 := checkFarm_ok f hs
  have hcw := workC_below' f 0 noTr (f.k0 f.nb) noTr_below
  have hE1 : f.check ≠ 0 → f.lveL = nl3 := fun h => if_neg h
  have hyes : f.check = 0 → ∀ pre l post, risL f.nl = pre ++ l :: post → (∀ x ∈ pre, f.lvs x = false) → f.lvs l = true → f.lveL = zV (nI l) := fun h0 pre l post h1 h2 h3 => by
    unfold FarmD.lveL
    rw [if_pos h0, h1, find_pre h2 h3]
  have hno : f.check = 0 → (∀ x ∈ risL f.nl, f.lvs x = false) → f.lveL = nl3 := fun h0 h1 => by
    unfold FarmD.lveL
    rw [if_pos h0, show (risL f.nl).find? f.lvs = none from List.find?_eq_none.2 fun x hx => by rw [h1 x hx]; simp]
  have hgo : f.check = 0 → f.Good := fun h => good_of_check h
  have hli := fun (g : f.Good) => lists127 (K := lvK f) (stop := lvZ f) (y := 37) (many := f.nl) (by omega) (fun s h hk => by rw [hk.2]; exact ⟨⟨lvH_low hcw (s := lvR.state) (c := lvR.pending) Below.lit (Nat.le_refl _), rfl⟩, lvH_ob hcw (s := lvR.state) (c := lvR.pending) Below.lit⟩) (fun s l h hk => by rw [hk.2.2]; exact ⟨lvH_low hcw (s := lvRx.state) (c := lvRx.pending) (zV_below _) (Nat.le_refl _), rfl⟩) (by have := g.nl; omega) (lv_step g hs) (lvH f (workC f noTr (f.k0 f.nb)) lvR nl3) ⟨(fun _ h => nomatch h), rfl⟩ 38 (by omega)
  have hli2 := fun (g : f.Good) => CallW.sub (h1 := (37, .loop lvR) :: (36, .dfr) :: (35, .cells none false [iV (f.nl : Int)]) :: (2, .cells none false [nl3]) :: (1, .cells none false (workC f noTr (f.k0 f.nb))) :: (0, .cells none false (farmL f)) :: []) (fun id o ho => by
    have := Hp.mem_of_get ho
    simp only [lvH, List.mem_cons, List.not_mem_nil, or_false, Prod.mk.injEq] at this
    rcases this with ⟨rfl, rfl⟩ | ⟨rfl, rfl⟩ | ⟨rfl, rfl⟩ | ⟨rfl, rfl⟩ | ⟨rfl, rfl⟩ | ⟨rfl, rfl⟩ <;> exact ⟨rfl, by omega⟩) (hli g)
  clear hli
  have hLb := f.lveL_below
  have e2 := fun g : f.Good => start67 g
  generalize f.lveL = LV at hE1 hyes hno hLb ⊢
  obtain ⟨KK, hKK⟩ : ∃ K, f.k0 f.nb = K := ⟨_, rfl⟩
  rw [hKK] at e2 hli2 hcw
  obtain ⟨C, hC⟩ : ∃ C, f.check = C := ⟨_, rfl⟩
  rw [hC] at e1 hE1 hyes hno hgo
  rw [hC]
  refine pure_of_body tok 4 Try.func44 en44 rfl ⟨farmV_below f, trivial⟩ (Below.tup (AllB.ok ⟨hLb, Below.lit, trivial⟩)) ?_
  refine SW.seqRun tok hO (by cbv <;> rfl) (by trivial) ?_
  refine SW.scope ?_
  refine SW.seq ?_
  refine SW.seqRun tok hO (by cbv <;> rfl) (by trivial) ?_
  refine OpsW.callP e1 (by cbv <;> rfl) ?_
  refine OpsW.run tok hO (by cbv <;> rfl) (by trivial) ?_
  refine SW.seqRun tok hO (by cbv <;> rfl) (by trivial) ?_
  refine SW.condS (by cbv <;> rfl) (fun h1 => ?_) (fun h1 => SW.skip ?_)
  · have hC0 : C ≠ 0 := by subst hO; simpa [std] using h1
    obtain rfl := hE1 hC0
    refine SW.seqRun tok hO (by cbv <;> rfl) (by trivial) ?_
    exact SW.ret ⟨_, _, rfl, rfl, Eqv.refl _⟩
  have hC0 : C = 0 := by subst hO; simpa [std] using h1
  have g := hgo hC0
  replace hyes := hyes hC0
  replace hno := hno hC0
  replace e2 := e2 g
  replace hli2 := hli2 g
  subst hC0
  refine (show SW _ _ _ _ _ _ from ?_)
  refine SW.seqRun tok hO (by cbv <;> rfl) (by trivial) ?_
  refine OpsW.callP e2 (by cbv <;> rfl) ?_
  refine OpsW.run tok hO (by cbv <;> rfl) (by trivial) ?_
  refine SW.seqRun tok hO (by cbv <;> rfl) (by trivial) ?_
  refine SW.seq (SW.label ?_)
  refine SW.seq ?_
  refine SW.seqRun tok hO (by cbv <;> rfl) (by trivial) ?_
  refine OpsW.callS en95 (CallW.pad (n := 35) (by show 3 ≤ 35; omega) (lists95 f.nl _ 35)) (by cbv <;> rfl) fun r st' hk => ?_
  obtain ⟨rfl, rfl⟩ := hk
  refine OpsW.run tok hO (by cbv <;> rfl) (by trivial) ?_
  refine SW.block ?_
  refine (show SW _ _ _ _ _ ⟨(35, .cells none false [iV (f.nl : Int)]) :: (2, .cells none false [nl3]) :: (1, .cells none false (workC f noTr KK)) :: (0, .cells none false (farmL f)) :: [], 36⟩ from ?_)
  refine SW.fmT (len := 32) lvL rfl rfl ⟨⟨rfl, .inl rfl⟩, ⟨rfl, .inl rfl⟩, ⟨rfl, .inl rfl⟩, ⟨rfl, .inl rfl⟩, trivial⟩ (fun id o ho => by
    have := Hp.mem_of_get ho
    simp only [List.mem_cons, Prod.mk.injEq, List.not_mem_nil, or_false] at this
    omega) ?_
  refine SW.rangeFunc (gf := 127) (first := []) (caps := [.ptr 35 0]) (by rfl) en127 ?_
  refine CallW.mono (show CallW Try.prog 127 [.yld 37, .ptr 35 0] ⟨(37, .loop lvR) :: (36, .dfr) :: (35, .cells none false [iV (f.nl : Int)]) :: (2, .cells none false [nl3]) :: (1, .cells none false (workC f noTr KK)) :: (0, .cells none false (farmL f)) :: [], 38⟩ _ from hli2) fun r st' hk => ?_
  obtain ⟨h', n, rfl, hn, hl, hk | ⟨pre, l, post, hE, hk⟩⟩ := hk
  · obtain ⟨h1, rfl⟩ := hk
    obtain rfl := hno h1
    rw [hKK]
    refine ⟨lvR, rfl, (fun h => by simp [lvR] at h), ?_⟩
    refine (show ∀ LX : ALoop, SW _ _ _ _ _ ⟨(37, .loop LX) :: (36, .dfr) :: (2, .cells none false [nl3]) :: (1, .cells none false (workC f noTr KK)) :: (0, .cells none false (farmL f)) :: [], n⟩ from fun LX => ?_) { lvR with state := .exhausted }
    refine SW.seqRun tok hO (by cbv <;> rfl) (by trivial) ?_
    exact SW.ret ⟨_, _, rfl, rfl, Eqv.refl _⟩
  · obtain ⟨h1, h2, rfl⟩ := hk
    obtain rfl := hyes pre l post hE h1 h2
    obtain ⟨M, FL, hZ⟩ : ∃ M fl, zV (nI l) = intsV M false fl := ⟨_, _, rfl⟩
    rw [hZ, hKK]
    refine ⟨lvRx, rfl, (fun h => by simp [lvRx, lvR] at h), ?_⟩
    refine SW.exit ?_
    refine (show ∀ LX : ALoop, SW _ _ _ _ _ ⟨(37, .loop LX) :: (36, .dfr) :: (2, .cells none false [intsV M false FL]) :: (1, .cells none false (workC f noTr KK)) :: (0, .cells none false (farmL f)) :: [], n⟩ from fun LX => ?_) { lvRx with state := .exhausted }
    refine SW.seqRun tok hO (by cbv <;> rfl) (by trivial) ?_
    exact SW.ret ⟨_, _, rfl, rfl, Eqv.refl _⟩
end Go.Fz
