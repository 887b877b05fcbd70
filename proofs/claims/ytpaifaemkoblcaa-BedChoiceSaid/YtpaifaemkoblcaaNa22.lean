/- Own work of the verifier of watercress: FzA6, FzA7, FzA8. -/
import Derived.Test.YtpaifaemkoblcaaNa21
set_option linter.unusedVariables false
set_option linter.unusedSimpArgs false
set_option linter.unusedVariables false
namespace Go.Fz
open Go.Proofs
set_option maxRecDepth 100000
section
variable {f : FarmD} {K : List (List Int) → (Nat → Hp) → Prop} {stop : List (List Int) → List Int → (Nat → Hp) → Prop} {y : Nat}
def owK (f : FarmD) (K : List (List Int) → (Nat → Hp) → Prop) (y : Nat) (s : List (List Int)) (Hf : Nat → Hp) : Prop := ∃ H, Hf = (fun q => owH f y owR (H q)) ∧ K (s.filter f.rgt) H
def owS (f : FarmD) (stop : List (List Int) → List Int → (Nat → Hp) → Prop) (y : Nat) (s : List (List Int)) (l : List Int) (Hf : Nat → Hp) : Prop := ∃ H, Hf = (fun q => owH f y owRx (H q)) ∧ f.rgt l = true ∧ LowM 49 H ∧ IdsM 43 H ∧ stop (s.filter f.rgt) l H
theorem owH_ids {f : FarmD} {y : Nat} {r : ALoop} {B : Hp} {id : Nat} {o : AObj} (h : Hp.get [(47, .loop r), (46, .dfr), (45, farmO f), (44, .cells none false (workC f noTr (f.k0 f.nb))), (43, .cells none false [.yld y]), (39, farmO f)] id = some o) : ((43 ≤ id ∧ id < 48) ∨ id = 39) ∧ o.own = true := by
  have := Hp.mem_of_get h
  simp only [List.mem_cons, List.not_mem_nil, or_false, Prod.mk.injEq] at this
  rcases this with ⟨rfl, rfl⟩ | ⟨rfl, rfl⟩ | ⟨rfl, rfl⟩ | ⟨rfl, rfl⟩ | ⟨rfl, rfl⟩ | ⟨rfl, rfl⟩ <;> exact ⟨by omega, rfl⟩
def IdsN (H : Nat → Hp) : Prop := ∀ q id o, (q = 48 ∨ 49 ≤ q) → (H q).get id = some o → id = q ∨ id < 39 ∨ (39 < id ∧ id < 43)
set_option maxHeartbeats 8000000 in
theorem ow_step (g : f.Good) (hsm : f.small) (hy : y < 43) (hids : ∀ s H, K s H → LowM 49 H ∧ IdsN H) (hidS : ∀ s l H, stop s l H → LowM 49 H ∧ IdsN H) (step : coStep K stop y f.trs) : coStep (owK f K y) (owS f stop y) 47 f.chL := by
  intro s l post Hf hE ⟨H, hHf, hK⟩
  subst hHf
  show YieldW Try.prog 47 [zV l] ⟨owH f y owR (H 48), 49⟩ _
  obtain ⟨O, hO⟩ : ∃ O : Ar, O = std := ⟨_, rfl⟩
  obtain ⟨hlow, hid⟩ := hids _ _ hK
  have hl : l.length = f.ns := ((f.mem_chL l).1 (by rw [hE]; simp)).1
  have e1 := play68 g noTr_below (f.k0 f.nb) hl
  have e2 := right71 g hsm (playF f (f.k0 f.nb) (zL l))
  have hr : f.rgt l = allN f.nl (f.rightB (playF f (f.k0 f.nb) (zL l))) := rfl
  rw [← hr] at e2
  have hfil : (s ++ [l]).filter f.rgt = s.filter f.rgt ++ (if f.rgt l = true then [l] else []) := by
    rw [List.filter_append]; congr 1
    cases h : f.rgt l <;> simp [h]
  have hEf : f.rgt l = true → f.trs = s.filter f.rgt ++ l :: post.filter f.rgt := fun h => by
    unfold FarmD.trs
    rw [hE, List.filter_append, List.filter_cons, if_pos h]
  have hst : f.rgt l = true → ∀ RB : ALoop, YieldW Try.prog y [zV l] ⟨owH f y RB (H 48), 49⟩ (MvP 49 49 48 (coR K stop (s.filter f.rgt) l) [(47, .loop RB), (46, .dfr), (45, farmO f), (44, .cells none false (workC f noTr (f.k0 f.nb))), (43, .cells none false [.yld y]), (39, farmO f)]) := fun h RB =>
    YieldW.asideG (R := [(47, .loop RB), (46, .dfr), (45, farmO f), (44, .cells none false (workC f noTr (f.k0 f.nb))), (43, .cells none false [.yld y]), (39, farmO f)]) (q := 48) (n := 49) (by omega) (by omega) (fun id o ho => by
      obtain ⟨k1, k2⟩ := owH_ids (B := []) ho
      refine ⟨?_, k2⟩
      cases hg : (H 48).get id with
      | none => rfl
      | some o' => have := hid 48 id o' (.inl rfl) hg; omega) (by omega) (by omega) (.inl rfl) (by omega) hlow (fun a ha => by rw [List.mem_singleton.1 ha]; exact zV_below _) (step _ l _ H (hEf h) hK)
  have hRb : ∀ v H', coR K stop (s.filter f.rgt) l v H' → v = .lit (.bool true) ∨ v = .lit (.bool false) := fun v H' h => h.elim (fun h => .inl h.1) (fun h => .inr h.1)
  have hgo : ∀ (H' : Nat → Hp) (st' : St) (q' : Nat), K (s.filter f.rgt ++ (if f.rgt l = true then [l] else [])) H' → 49 ≤ st'.n → (q' = 48 ∨ (49 ≤ q' ∧ q' < st'.n)) → (∀ id o, Hp.get (owH f y owR (H' q')) id = some o → st'.h.get id = some o) → LowP 49 (coR (owK f K y) (owS f stop y) s l) (.lit (.bool true)) st' := fun H' st' q' h1 h2 h3 h4 =>
    ⟨fun q => owH f y owR (H' q), q', .inl ⟨rfl, H', rfl, by rw [hfil]; exact h1⟩, Below.lit, owH_low (st := owR.state) (c := owR.pending) hy (hids _ _ h1).1, h2, h3, h4⟩
  have hno : ∀ (H' : Nat → Hp) (st' : St) (q' : Nat), f.rgt l = true → stop (s.filter f.rgt) l H' → 49 ≤ st'.n → (q' = 48 ∨ (49 ≤ q' ∧ q' < st'.n)) → (∀ id o, Hp.get (owH f y owRx (H' q')) id = some o → st'.h.get id = some o) → LowP 49 (coR (owK f K y) (owS f stop y) s l) (.lit (.bool false)) st' := fun H' st' q' h0 h1 h2 h3 h4 =>
    ⟨fun q => owH f y owRx (H' q), q', .inr ⟨rfl, H', rfl, h0, (hidS _ _ _ h1).1, fun q id o hq hg => by have := (hidS _ _ _ h1).2 q id o hq hg; omega, h1⟩, Below.lit, owH_low (st := owRx.state) (c := owRx.pending) hy (hidS _ _ _ h1).1, h2, h3, h4⟩
  obtain ⟨B, hB⟩ : ∃ B, f.rgt l = B := ⟨_, rfl⟩
  rw [hB] at e2 hst hgo hno
  obtain ⟨W, hW⟩ : ∃ W, playF f (f.k0 f.nb) (zL l) = W := ⟨_, rfl⟩
  rw [hW] at e1 e2
  obtain ⟨KK, hKK⟩ : ∃ K, f.k0 f.nb = K := ⟨_, rfl⟩
  obtain ⟨M, FL, hZ⟩ : ∃ M fl, zV l = intsV M false fl := ⟨_, _, rfl⟩
  rw [hZ] at e1 hst ⊢
  unfold owH at hst hgo hno ⊢
  rw [hKK] at e1 hst hgo hno ⊢
  obtain ⟨QQ, hQQ⟩ : ∃ r, LowP 49 (coR (owK f K y) (owS f stop y) s l) = r := ⟨_, rfl⟩
  rw [hQQ] at hgo hno ⊢
  obtain ⟨H48, hH48⟩ : ∃ x, H 48 = x := ⟨_, rfl⟩
  rw [hH48] at hst ⊢
  refine YieldW.of_round (r := owR) rfl rfl ?_
  refine SW.run tok hO (by cbv <;> rfl) (by trivial) ?_
  refine ⟨owR, rfl, rfl, SW.block ?_⟩
  obtain ⟨RB, hRB⟩ : ∃ r, r = ({ owR with state := .busy } : ALoop) := ⟨_, rfl⟩
  have hst := fun h => hst h RB
  rw [← hRB]
  refine SW.seqRunD tok mixed hO (by kernel_rfl) (by cbv <;> rfl) (by trivial) ?_
  refine AnyE.callP e1 (by cbv <;> rfl) (by cbv <;> rfl) ?_
  refine AnyE.run tok hO (by kernel_rfl) (by cbv <;> rfl) (by trivial) ?_
  refine AnyE.callD e2 (by cbv <;> rfl) (by cbv <;> rfl) (fun hBt => ?_) (fun hBf => ?_)
  · subst hBt
    refine AnyE.run tok hO (by kernel_rfl) (by cbv <;> rfl) (by trivial) ?_
    refine AnyE.apply (c := .yld y) (args := [intsV M false FL]) (by cbv <;> rfl) (by cbv <;> rfl) (hst rfl) fun v st' hk => ?_
    obtain ⟨H', q', n', k1, k2, k3, k4, k5, rfl⟩ := hk
    have hlk : ∀ (r : ALoop) (rest : Hp) (q : Nat) id o, IdsN H' → LowM 49 H' → (q = 48 ∨ 49 ≤ q) → Hp.get ((47, AObj.loop r) :: (46, AObj.dfr) :: (45, farmO f) :: (44, AObj.cells none false (workC f noTr KK)) :: (43, AObj.cells none false [AV.yld y]) :: (39, farmO f) :: H' q) id = some o → True := fun _ _ _ _ _ _ _ _ _ => trivial
    rcases k1 with ⟨rfl, k1⟩ | ⟨rfl, k1⟩
    · have hk := hgo H' ⟨(47, .loop owR) :: (46, .dfr) :: (45, farmO f) :: (44, .cells none false (workC f noTr KK)) :: (43, .cells none false [.yld y]) :: (39, farmO f) :: H' q', n'⟩ q' (by rw [if_pos rfl]; exact k1) (by show 49 ≤ n'; omega) (by show q' = 48 ∨ (49 ≤ q' ∧ q' < n'); omega) (fun id o ho => ho)
      obtain ⟨HH, hHH⟩ : ∃ x, H' q' = x := ⟨_, rfl⟩
      rw [hHH] at hk ⊢
      refine AnyE.run tok hO (by kernel_rfl) (by cbv <;> rfl) (by trivial) ?_
      refine SW.condS (by cbv <;> rfl) (fun h7 => absurd h7 (by decide)) (fun _ => SW.skip ?_)
      subst hRB
      exact ⟨_, rfl, hk⟩
    · have hk := hno H' ⟨(47, .loop owRx) :: (46, .dfr) :: (45, farmO f) :: (44, .cells none false (workC f noTr KK)) :: (43, .cells none false [.yld y]) :: (39, farmO f) :: H' q', n'⟩ q' rfl k1 (by show 49 ≤ n'; omega) (by show q' = 48 ∨ (49 ≤ q' ∧ q' < n'); omega) (fun id o ho => ho)
      obtain ⟨HH, hHH⟩ : ∃ x, H' q' = x := ⟨_, rfl⟩
      rw [hHH] at hk ⊢
      refine AnyE.run tok hO (by kernel_rfl) (by cbv <;> rfl) (by trivial) ?_
      refine SW.condS (by cbv <;> rfl) (fun _ => ?_) (fun h7 => absurd h7 (by decide))
      subst hRB
      exact SW.ret ⟨_, rfl, hk⟩
  · subst hBf
    have hk := hgo H ⟨(47, .loop owR) :: (46, .dfr) :: (45, farmO f) :: (44, .cells none false (workC f noTr KK)) :: (43, .cells none false [.yld y]) :: (39, farmO f) :: H48, 49⟩ 48 (by rw [if_neg (by simp), List.append_nil]; exact hK) (Nat.le_refl _) (.inl rfl) (fun id o ho => by rw [← hH48]; exact ho)
    refine AnyE.run tok hO (by kernel_rfl) (by cbv <;> rfl) (by trivial) ?_
    refine SW.condS (by cbv <;> rfl) (fun h7 => absurd h7 (by decide)) (fun _ => SW.skip ?_)
    subst hRB
    exact ⟨_, rfl, hk⟩
set_option maxHeartbeats 8000000 in
theorem own137 (g : f.Good) (hsm : f.small) (hy : y < 43) (hy39 : y ≠ 39) (hids : ∀ s H, K s H → LowM 49 H ∧ IdsN H) (hidS : ∀ s l H, stop s l H → LowM 49 H ∧ IdsN H) (step : coStep K stop y f.trs) (H : Nat → Hp) (hK : K [] H) (h48 : (H 48).get 48 = none) (n0 : Nat) (hn0 : n0 ≤ 43) :
    CallW Try.prog 137 [.yld y, .ptr 39 0] ⟨(39, farmO f) :: H 48, n0⟩ (fun _ st' => ∃ H' q n, (∀ id o, Hp.get (H' q) id = some o → Hp.get st'.h id = some o) ∧ st'.n = n ∧ 49 ≤ n ∧ (q = 48 ∨ 49 ≤ q) ∧ q < n ∧ LowM 49 H' ∧ (K f.trs H' ∨ ∃ pre l post, f.trs = pre ++ l :: post ∧ stop pre l H')) := by
  obtain ⟨O, hO⟩ : ∃ O : Ar, O = std := ⟨_, rfl⟩
  obtain ⟨hlow, hid⟩ := hids _ _ hK
  have e1 := start67 g
  have hns := g.ns
  have hch := choices130 (f := f) (K := owK f K y) (stop := owS f stop y) (fc := 45) (y := 47) (E := f.chL) (by omega) (by omega) (by omega) (by omega) (fun s Hf ⟨H, h1, h2⟩ => by
    subst h1
    exact ⟨owH_low (st := owR.state) (c := owR.pending) hy (hids _ _ h2).1, fun q _ => ⟨none, false, rfl⟩⟩) (fun i hi => by have := (g.spring i hi).2; omega) (by omega) rfl (ow_step g hsm hy hids hidS step) (fun q => owH f y owR (H q)) ⟨H, rfl, hK⟩ 48 (by omega)
  have hfil : ∀ pre l post, f.chL = pre ++ l :: post → f.rgt l = true → f.trs = pre.filter f.rgt ++ l :: post.filter f.rgt := fun pre l post h1 h2 => by
    unfold FarmD.trs
    rw [h1, List.filter_append, List.filter_cons, if_pos h2]
  have hlt : ∀ id o, Hp.get (H 48) id = some o → id < 39 ∨ (39 < id ∧ id < 43) := fun id o ho => by
    have := hid 48 id o (.inl rfl) ho
    have hne : id ≠ 48 := fun e => by rw [e, h48] at ho; cases ho
    omega
  refine CallW.pad (n := 43) hn0 ?_
  obtain ⟨H48, hH48⟩ : ∃ x, H 48 = x := ⟨_, rfl⟩
  rw [hH48] at hch hlt ⊢
  obtain ⟨KK, hKK⟩ : ∃ K, f.k0 f.nb = K := ⟨_, rfl⟩
  have hmono : ∀ st' : St, (∃ H' q n, st' = ⟨H' q, n⟩ ∧ 49 ≤ n ∧ (q = 48 ∨ 49 ≤ q) ∧ q < n ∧ LowM 49 H' ∧ (owK f K y f.chL H' ∨ ∃ pre l post, f.chL = pre ++ l :: post ∧ owS f stop y pre l H')) →
      ∃ H2 q n r, st' = ⟨owH f y r (H2 q), n⟩ ∧ (r = owR ∨ r = owRx) ∧ 49 ≤ n ∧ (q = 48 ∨ 49 ≤ q) ∧ q < n ∧ LowM 49 H2 ∧ IdsN H2 ∧ (K f.trs H2 ∨ ∃ pre l post, f.trs = pre ++ l :: post ∧ stop pre l H2) := fun st' ⟨H', q, n, h1, h2, h3, h4, h5, h6⟩ => by
    rcases h6 with ⟨H2, rfl, h6⟩ | ⟨pre, l, post, h7, H2, rfl, h8, h9, h10, h11⟩
    · exact ⟨H2, q, n, owR, h1, .inl rfl, h2, h3, h4, (hids _ _ h6).1, (hids _ _ h6).2, .inl h6⟩
    · exact ⟨H2, q, n, owRx, h1, .inr rfl, h2, h3, h4, h9, (hidS _ _ _ h11).2, .inr ⟨_, l, _, hfil pre l post h7 h8, h11⟩⟩
  have hch := hch.mono (k' := fun _ st' => ∃ H2 q n r, st' = ⟨owH f y r (H2 q), n⟩ ∧ (r = owR ∨ r = owRx) ∧ 49 ≤ n ∧ (q = 48 ∨ 49 ≤ q) ∧ q < n ∧ LowM 49 H2 ∧ IdsN H2 ∧ (K f.trs H2 ∨ ∃ pre l post, f.trs = pre ++ l :: post ∧ stop pre l H2)) fun _ st' h => hmono st' h
  clear hmono hfil
  have hch2 : CallW Try.prog 130 [.yld 47, .ptr 45 0] ⟨owH f y owR H48, 48⟩ _ := hch
  unfold owH at hch2
  rw [hKK] at e1 hch2
  refine callW_of_body tok Try.func137 rfl ?_
  refine SW.seqRun tok hO (by cbv <;> rfl) (by trivial) ?_
  refine SW.seqRun tok hO (by cbv <;> rfl) (by trivial) ?_
  refine OpsW.callP e1 (by cbv <;> rfl) ?_
  refine OpsW.run tok hO (by cbv <;> rfl) (by trivial) ?_
  refine SW.seqRun tok hO (by cbv <;> rfl) (by trivial) ?_
  refine OpsW.callS en96 (choices96 f _ _) (by cbv <;> rfl) fun r st' hk => ?_
  obtain ⟨rfl, rfl⟩ := hk
  refine OpsW.run tok hO (by cbv <;> rfl) (by trivial) ?_
  refine SW.block ?_
  refine (show SW _ _ _ _ _ ⟨(45, farmO f) :: (44, .cells none false (workC f noTr KK)) :: (43, .cells none false [.yld y]) :: (39, farmO f) :: H48, 46⟩ from ?_)
  refine SW.fmT (len := 21) owL rfl rfl ⟨⟨rfl, .inl rfl⟩, ⟨rfl, .inl rfl⟩, ⟨rfl, .inl rfl⟩, ⟨rfl, .inl rfl⟩, trivial⟩ (fun id o ho => by
    simp only [Hp.get] at ho
    split at ho
    · omega
    split at ho
    · omega
    split at ho
    · omega
    split at ho
    · omega
    have := hlt id o ho
    omega) ?_
  refine SW.rangeFunc (gf := 130) (first := []) (caps := [.ptr 45 0]) (by rfl) en130 ?_
  refine CallW.mono (show CallW Try.prog 130 [.yld 47, .ptr 45 0] ⟨(47, .loop owR) :: (46, .dfr) :: (45, farmO f) :: (44, .cells none false (workC f noTr KK)) :: (43, .cells none false [.yld y]) :: (39, farmO f) :: H48, 48⟩ _ from hch2) fun r st' hk => ?_
  obtain ⟨H2, q, n, r2, rfl, hr2, h2, h3, h4, h5, h6, h7⟩ := hk
  have hsub : ∀ r3 x id o, Hp.get (H2 q) id = some o → Hp.get (Hp.set ((47, .loop r3) :: (46, .dfr) :: (45, farmO f) :: (44, .cells none false (workC f noTr KK)) :: (43, .cells none false [.yld y]) :: (39, farmO f) :: H2 q) 46 x) id = some o := fun r3 x id o ho => by
    have := h6 q id o h3 ho
    refine (Hp.get_set _ 46 _ id).trans ((if_neg (by omega)).trans ?_)
    simp only [Hp.get]
    rw [if_neg (by omega), if_neg (by omega), if_neg (by omega), if_neg (by omega), if_neg (by omega), if_neg (by omega)]
    exact ho
  rcases hr2 with rfl | rfl
  · refine ⟨owR, rfl, (fun h => by simp [owR] at h), ?_⟩
    exact ⟨_, _, rfl, rfl, H2, q, n, fun id o ho => hsub _ _ id o ho, rfl, h2, h3, h4, h5, h7⟩
  · refine ⟨owRx, rfl, (fun h => by simp [owRx, owR] at h), ?_⟩
    refine SW.ret ⟨_, _, rfl, rfl, H2, q, n, fun id o ho => hsub _ _ id o ho, rfl, h2, h3, h4, h5, h7⟩
theorem own137s (g : f.Good) (hsm : f.small) (hy : y < 43) (hy39 : y ≠ 39) (hids : ∀ s H, K s H → LowM 49 H ∧ IdsN H) (hidS : ∀ s l H, stop s l H → LowM 49 H ∧ IdsN H) (step : coStep K stop y f.trs) (H : Nat → Hp) (hK : K [] H) (h48 : (H 48).get 48 = none) (n0 : Nat) (hn0 : n0 ≤ 43) :
    CallW Try.prog 137 [.yld y, .ptr 39 0] ⟨(39, farmO f) :: H 48, n0⟩ (fun _ st' => ∃ H' q n, st' = ⟨H' q, n⟩ ∧ 49 ≤ n ∧ (q = 48 ∨ 49 ≤ q) ∧ q < n ∧ LowM 49 H' ∧ (K f.trs H' ∨ ∃ pre l post, f.trs = pre ++ l :: post ∧ stop pre l H')) :=
  CallW.weak (own137 g hsm hy hy39 hids hidS step H hK h48 n0 hn0) (fun v st1 ⟨H', q, n, hg, hn, h49, hq, hqn, hl, hk⟩ => .inr ⟨.any, ⟨H' q, st1.n⟩, ⟨.inl rfl, by show n0 ≤ st1.n; omega, Nat.le_refl _, fun id o ho => ⟨hg id o ho, by
      have := (hl.id q id o hq ho).1
      show id < st1.n
      omega, .inl rfl⟩⟩, H', q, n, by rw [hn], h49, hq, hqn, hl, hk⟩)
end
end Go.Fz
set_option linter.unusedVariables false
namespace Go.Fz
open Go.Proofs
set_option maxRecDepth 100000
noncomputable def htParts : Code × Code := match findRF (bodyF Try.f94) with
  | some p => p
  | none => (.skip, .skip)
def htL : List (Nat × AV) := [(2, .ptr 1 0), (4, .fn (.func 137) [] [.ptr 39 0])]
noncomputable def htR : ALoop := { state := .ready, pending := none, tmps := ⟨6, getT htL⟩, params := #[5], assign := htParts.1, body := htParts.2, dfid := 40 }
noncomputable def htRx : ALoop := { htR with state := .done, pending := some .ret }
def htH (f : FarmD) (r : ALoop) (X : AV) : Hp := [(41, .loop r), (40, .dfr), (1, .cells none false [X]), (0, .cells none false (farmL f))]
theorem htH_low {f : FarmD} {s : LoopState} {c : Option Code} {X : AV} (hX : Below 0 X) : LowM 49 (fun _ => htH f { htR with state := s, pending := c } X) ∧ IdsN (fun _ => htH f { htR with state := s, pending := c } X) := by
  have hp : ∀ {ρ : Nat → Nat} {n j : Nat}, (∀ i, i < 49 → i ≠ 48 → ρ i = i) → 49 ≤ n → j < 49 → j ≠ 48 → RenV ρ n (.ptr j 0) (.ptr j 0) := fun {ρ n j} hρ hn hj h48 => by
    have := RenV.ptr (ρ := ρ) (n := n) (j := j) (off := 0) (by omega)
    rwa [hρ j hj h48] at this
  constructor
  · refine LowM.cons (o := fun _ => .loop { htR with state := s, pending := c }) (by omega) (by omega) (MvO.of rfl rfl fun ρ n hρ hn => .base (.loop rfl rfl rfl rfl rfl (by show 40 = ρ 40; rw [hρ 40 (by omega) (by omega)]) (by show 40 < n; omega) rfl
      (RenV.getT (l := htL) ⟨hp hρ hn (by omega) (by omega), RenV.fn .nil (.cons (hp hρ hn (by omega) (by omega)) .nil), trivial⟩))) ?_
    refine LowM.cons (o := fun _ => .dfr) (by omega) (by omega) (MvO.of rfl rfl fun ρ n hρ hn => .base .dfr) ?_
    refine LowM.cons (o := fun _ => .cells none false [X]) (by omega) (by omega) (MvO.ints (AllB.ok ⟨hX, trivial⟩)) ?_
    exact LowM.cons (o := fun _ => .cells none false (farmL f)) (by omega) (by omega) (MvO.ints (farmL_below f)) LowM.nil
  · intro q id o _ hg
    have := Hp.mem_of_get hg
    simp only [htH, List.mem_cons, List.not_mem_nil, or_false, Prod.mk.injEq] at this
    omega
def htK (f : FarmD) (s : List (List Int)) (H : Nat → Hp) : Prop := s = [] ∧ H = fun _ => htH f htR (.sb false)
def htS (f : FarmD) (s : List (List Int)) (l : List Int) (H : Nat → Hp) : Prop := H = fun _ => htH f htRx (.sb true)
set_option maxHeartbeats 4000000 in
theorem ht_step (f : FarmD) (E : List (List Int)) : coStep (htK f) (htS f) 41 E := by
  intro s l post H hE ⟨hs, hh⟩
  subst hh
  obtain ⟨O, hO⟩ : ∃ O : Ar, O = std := ⟨_, rfl⟩
  refine YieldW.of_round (r := htR) rfl rfl ?_
  refine SW.skip ?_
  refine ⟨htR, rfl, rfl, SW.block ?_⟩
  refine SW.seqRun tok hO (by cbv <;> rfl) (by trivial) ?_
  exact SW.ret ⟨_, rfl, fun _ => htH f htRx (.sb true), 48, .inr ⟨rfl, rfl⟩, Below.lit, (htH_low (s := htRx.state) (c := htRx.pending) Below.sb).1, Nat.le_refl _, .inl rfl, fun id o ho => ho⟩
set_option maxHeartbeats 8000000 in
theorem hasTruth_ok {f : FarmD} (g : f.Good) (hsm : f.small) : Pure Try.prog 94 [farmV f] (.sb (decide (f.trs ≠ []))) := by
  obtain ⟨O, hO⟩ : ∃ O : Ar, O = std := ⟨_, rfl⟩
  have hc := own137s (K := htK f) (stop := htS f) (y := 41) g hsm (by omega) (by omega) (fun s H h => by rw [h.2]; exact htH_low (s := htR.state) (c := htR.pending) Below.sb) (fun s l H h => by rw [show H = _ from h]; exact htH_low (s := htRx.state) (c := htRx.pending) Below.sb) (ht_step f f.trs) (fun _ => htH f htR (.sb false)) ⟨rfl, rfl⟩ rfl 42 (by omega)
  have hc2 := CallW.sub (h1 := (41, .loop htR) :: (40, .dfr) :: (39, farmO f) :: (1, .cells none false [.sb false]) :: (0, .cells none false (farmL f)) :: []) (fun id o ho => by
    have := Hp.mem_of_get ho
    simp only [htH, List.mem_cons, List.not_mem_nil, or_false, Prod.mk.injEq] at this
    rcases this with ⟨rfl, rfl⟩ | ⟨rfl, rfl⟩ | ⟨rfl, rfl⟩ | ⟨rfl, rfl⟩ | ⟨rfl, rfl⟩ <;> exact ⟨rfl, by omega⟩) hc
  have hyes : ∀ pre l post, f.trs = pre ++ l :: post → decide (f.trs ≠ []) = true := fun pre l post h => decide_eq_true (by rw [h]; simp)
  have hno : f.trs = [] → decide (f.trs ≠ []) = false := fun h => decide_eq_false (by simp [h])
  generalize decide (f.trs ≠ []) = Q at hyes hno ⊢
  clear hc
  refine pure_of_body tok 3 Try.func94 en94 rfl ⟨farmV_below f, trivial⟩ Below.sb ?_
  refine SW.seqRun tok hO (by cbv <;> rfl) (by trivial) ?_
  refine SW.seq ?_
  refine SW.seqRun tok hO (by cbv <;> rfl) (by trivial) ?_
  refine OpsW.callS en122 (CallW.pad (n := 39) (by show 2 ≤ 39; omega) (own122 f _ 39)) (by cbv <;> rfl) fun r st' hk => ?_
  obtain ⟨rfl, rfl⟩ := hk
  refine OpsW.run tok hO (by cbv <;> rfl) (by trivial) ?_
  refine SW.block ?_
  refine (show SW _ _ _ _ _ ⟨(39, farmO f) :: (1, .cells none false [.sb false]) :: (0, .cells none false (farmL f)) :: [], 40⟩ from ?_)
  refine SW.fmT (len := 6) htL rfl rfl ⟨⟨rfl, .inl rfl⟩, ⟨rfl, .inl rfl⟩, trivial⟩ (fun id o ho => by
    have := Hp.mem_of_get ho
    simp only [List.mem_cons, List.not_mem_nil, or_false, Prod.mk.injEq] at this
    omega) ?_
  refine SW.rangeFunc (gf := 137) (first := []) (caps := [.ptr 39 0]) (by rfl) en137 ?_
  refine CallW.mono (show CallW Try.prog 137 [.yld 41, .ptr 39 0] ⟨(41, .loop htR) :: (40, .dfr) :: (39, farmO f) :: (1, .cells none false [.sb false]) :: (0, .cells none false (farmL f)) :: [], 42⟩ _ from hc2) fun r st' hk => ?_
  obtain ⟨H', q, n, rfl, h49, hq, hqn, hl, hk | ⟨pre, l, post, hE, hk⟩⟩ := hk
  · obtain ⟨e, rfl⟩ := hk
    obtain rfl := hno e
    refine ⟨htR, rfl, (fun h => by simp [htR] at h), ?_⟩
    show SW _ _ _ _ _ _
    refine SW.seqRun tok hO (by cbv <;> rfl) (by trivial) ?_
    exact SW.ret ⟨_, _, rfl, rfl, Eqv.refl _⟩
  · have hk : H' = fun _ => htH f htRx (.sb true) := hk
    subst hk
    obtain rfl := hyes pre l post hE
    refine ⟨htRx, rfl, (fun h => by simp [htRx, htR] at h), ?_⟩
    exact SW.ret ⟨_, _, rfl, rfl, Eqv.refl _⟩
end Go.Fz
set_option linter.unusedVariables false
namespace Go.Fz
open Go.Proofs
set_option maxRecDepth 100000
def FarmD.wl (f : FarmD) (n : Nat) : FarmD := { f with nl := n }
theorem FarmD.wl_good {f : FarmD} (g : f.Good) {n : Nat} (h : n ≤ f.nl) : (f.wl n).Good := ⟨g.nb, g.ns, Nat.le_trans h g.nl, g.pos, g.bed, g.spring, fun i hi => g.look i (Nat.lt_of_lt_of_le hi h)⟩
theorem good_small {f : FarmD} (g : f.Good) : f.small := by
  have h1 := g.nb
  have h2 := g.ns
  have h3 := g.nl
  exact ⟨by omega, by omega, by omega⟩
set_option maxHeartbeats 4000000 in
theorem withLooks_ok (f : FarmD) (n : Nat) (hn : n ≤ f.nl) : Pure Try.prog 93 [farmV f, iV (n : Int)] (farmV (f.wl n)) := by
  obtain ⟨O, hO⟩ : ∃ O : Ar, O = std := ⟨_, rfl⟩
  have hnat : ∀ i : Nat, O.nat (Int.ofNat i) = i := fun i => by subst hO; rfl
  refine pure_of_body tok 3 Try.func93 en93 rfl ⟨farmV_below f, Below.lit, trivial⟩ (farmV_below _) ?_
  refine SW.seqRun tok hO (by cbv <;> rfl) (by trivial) ?_
  refine SW.seqRun tok hO (by cbv <;> rfl) ?_ ?_
  · exact ⟨Nat.zero_le _, by show O.nat (Int.ofNat n) ≤ f.nl; rw [hnat]; exact hn, Int.natCast_nonneg n⟩
  refine SW.seqRun tok hO (by cbv <;> rfl) (by trivial) ?_
  refine SW.ret ⟨_, _, rfl, rfl, ?_⟩
  show Eqv (.agg [springsV f, bedsV f, .isl (O.sub (O.nat (Int.ofNat n)) 0) 4 false fun i => lookC f (O.add 0 i)]) _
  have e1 : O.sub (O.nat (Int.ofNat n)) 0 = n := by rw [hnat]; subst hO; rfl
  have e2 : ∀ i, O.add 0 i = i := fun i => by subst hO; exact Nat.zero_add i
  rw [e1]
  exact Eqv.agg (.cons (Eqv.refl _) (.cons (Eqv.refl _) (.cons (Eqv.isl rfl fun i k _ _ => Eqv.of (by rw [e2]; rfl)) .nil)))
def FarmD.fstO (f : FarmD) : Option Nat := (List.range f.nl).find? fun n => decide ((f.wl (n + 1)).trs = [])
def FarmD.fstE (f : FarmD) : Int := if f.check = 0 then (match f.fstO with | some _ => 0 | none => 7) else f.check
def FarmD.fstV (f : FarmD) : Int := if f.check = 0 then (match f.fstO with | some n => (n : Int) | none => 0) else 0
theorem find_range {p : Nat → Bool} {n i : Nat} (hi : i < n) (h0 : ∀ j, j < i → p j = false) (h1 : p i = true) : (List.range n).find? p = some i := by
  obtain ⟨r, hr⟩ := range_split (i + 1) n hi
  rw [hr, List.range_succ, List.append_assoc, List.find?_append]
  have : (List.range i).find? p = none := List.find?_eq_none.2 fun x hx => by rw [h0 x (List.mem_range.1 hx)]; simp
  rw [this]
  simp [h1]
theorem find_none {p : Nat → Bool} {n : Nat} (h0 : ∀ j, j < n → p j = false) : (List.range n).find? p = none := List.find?_eq_none.2 fun x hx => by rw [h0 x (List.mem_range.1 hx)]; simp
set_option maxHeartbeats 8000000 in
theorem first_ok (f : FarmD) (hs : f.small) : Pure Try.prog 43 [farmV f] (.tup [iV f.fstV, iV f.fstE]) := by
  obtain ⟨O, hO⟩ : ∃ O : Ar, O = std := ⟨_, rfl⟩
  have e1 := checkFarm_ok f hs
  have hE1 : f.check ≠ 0 → f.fstE = f.check ∧ f.fstV = 0 := fun h => ⟨if_neg h, if_neg h⟩
  have hE2 : f.check = 0 → ∀ i, i < f.nl → (∀ j, j < i → (f.wl (j + 1)).trs ≠ []) → (f.wl (i + 1)).trs = [] → f.fstE = 0 ∧ f.fstV = (i : Int) := fun h i h1 h2 h3 => by
    have : f.fstO = some i := find_range h1 (fun j hj => decide_eq_false (h2 j hj)) (decide_eq_true h3)
    unfold FarmD.fstE FarmD.fstV
    rw [if_pos h, if_pos h, this]
    exact ⟨rfl, rfl⟩
  have hE3 : f.check = 0 → (∀ j, j < f.nl → (f.wl (j + 1)).trs ≠ []) → f.fstE = 7 ∧ f.fstV = 0 := fun h h2 => by
    have : f.fstO = none := find_none fun j hj => decide_eq_false (h2 j hj)
    unfold FarmD.fstE FarmD.fstV
    rw [if_pos h, if_pos h, this]
    exact ⟨rfl, rfl⟩
  have hgo := fun h : f.check = 0 => good_of_check h
  generalize f.fstV = FV at hE1 hE2 hE3 ⊢
  generalize f.fstE = FE at hE1 hE2 hE3 ⊢
  obtain ⟨C, hC⟩ : ∃ C, f.check = C := ⟨_, rfl⟩
  rw [hC] at e1 hE1 hE2 hE3 hgo
  refine pure_of_body tok 3 Try.func43 en43 rfl ⟨farmV_below f, trivial⟩ (Below.tup (AllB.ok ⟨Below.lit, Below.lit, trivial⟩)) ?_
  refine SW.seqRun tok hO (by cbv <;> rfl) (by trivial) ?_
  refine SW.seq ?_
  refine SW.seqRun tok hO (by cbv <;> rfl) (by trivial) ?_
  refine OpsW.callP e1 (by cbv <;> rfl) ?_
  refine OpsW.run tok hO (by cbv <;> rfl) (by trivial) ?_
  refine SW.seqRun tok hO (by cbv <;> rfl) (by trivial) ?_
  refine SW.condS (by cbv <;> rfl) (fun h1 => ?_) (fun h1 => SW.skip ?_)
  · have hC0 : C ≠ 0 := by subst hO; simpa [std] using h1
    obtain ⟨rfl, rfl⟩ := hE1 hC0
    refine SW.seqRun tok hO (by cbv <;> rfl) (by trivial) ?_
    exact SW.ret ⟨_, _, rfl, rfl, Eqv.refl _⟩
  have hC0 : C = 0 := by subst hO; simpa [std] using h1
  have g := hgo hC0
  have hE2 := hE2 hC0
  have hE3 := hE3 hC0
  have hnl := g.nl
  refine (show SW _ _ _ _ _ _ from ?_)
  refine SW.seq ?_
  refine SW.seqRun tok hO (by cbv <;> rfl) (by trivial) ?_
  refine (SW.block (SW.loopF (fun i : Nat => ⟨⟨25, getT [(1, .ptr 0 0), (13, iV f.nl), (14, iV i)]⟩, []⟩) (fun _ => ⟨[(0, .cells none false (farmL f))], 1⟩) (fun i => f.nl - i) (fun i => i ≤ f.nl ∧ ∀ j, j < i → (f.wl (j + 1)).trs ≠ []) 0
    (fun _ => rfl) ⟨Nat.zero_le _, fun j hj => absurd hj (Nat.not_lt_zero j)⟩ (Weak.by rfl rfl (by simp) (Nat.le_refl _) (Nat.le_refl _) ⟨⟨rfl, .inl rfl⟩, ⟨rfl, .inl rfl⟩, ⟨rfl, .inl rfl⟩, trivial⟩ ⟨⟨rfl, by omega, .inl rfl⟩, trivial⟩) fun i ⟨hi, hall⟩ => ?_))
  refine SW.seqRun tok hO (by cbv <;> rfl) (by trivial) ?_
  refine SW.seq (SW.condS (by cbv <;> rfl) (fun h => SW.skip ?_) (fun h => SW.exit ?_))
  · have hlt : i < f.nl := by
      have : (i : Int) < (f.nl : Int) := by subst hO; simpa [std] using h
      omega
    have hinc : O.bin .add .i64 (Int.ofNat i) 1 = ((i + 1 : Nat) : Int) := (add1_ok hO (by omega)).trans (by omega)
    obtain ⟨FV2, e2, e3⟩ : ∃ v, Pure Try.prog 93 [farmV f, AV.lit (.int .i64 (O.bin .add .i64 (Int.ofNat i) 1))] v ∧ Pure Try.prog 94 [v] (.sb (decide ((f.wl (i + 1)).trs ≠ []))) := ⟨_, by rw [hinc]; exact withLooks_ok f (i + 1) hlt, hasTruth_ok (f := f.wl (i + 1)) (FarmD.wl_good g hlt) (good_small (FarmD.wl_good g hlt))⟩
    have hQ : decide ((f.wl (i + 1)).trs ≠ []) = true → (f.wl (i + 1)).trs ≠ [] := of_decide_eq_true
    have hQ0 : decide ((f.wl (i + 1)).trs ≠ []) = false → (f.wl (i + 1)).trs = [] := fun h => by simpa using h
    generalize decide ((f.wl (i + 1)).trs ≠ []) = Q at e3 hQ hQ0
    refine SW.seq (SW.block ?_)
    refine SW.seqRun tok hO (by cbv <;> rfl) (by trivial) ?_
    refine SW.seqRun tok hO (by cbv <;> rfl) (by trivial) ?_
    refine OpsW.callP e2 (by cbv <;> rfl) ?_
    refine OpsW.run tok hO (by cbv <;> rfl) (by trivial) ?_
    refine OpsW.callP e3 (by cbv <;> rfl) ?_
    refine OpsW.run tok hO (by cbv <;> rfl) (by trivial) ?_
    refine SW.condS (by cbv <;> rfl) (fun h2 => ?_) (fun h2 => SW.skip ?_)
    · have hQf : Q = false := by subst hO; simpa [std] using h2
      obtain ⟨rfl, rfl⟩ := hE2 i hlt hall (hQ0 hQf)
      refine SW.seqRun tok hO (by cbv <;> rfl) (by trivial) ?_
      exact SW.ret ⟨_, _, rfl, rfl, Eqv.refl _⟩
    · have hQt : Q = true := by subst hO; simpa [std] using h2
      refine SW.run tok hO (by cbv <;> rfl) (by trivial) ?_
      refine ⟨i + 1, by omega, ⟨by omega, fun j hj => ?_⟩, Weak.by rfl rfl (by simp) (Nat.le_refl _) (Nat.le_refl _) ⟨⟨rfl, .inl rfl⟩, ⟨rfl, .inl rfl⟩, ⟨congrArg (fun z => AV.lit (.int .i64 z)) hinc, .inl rfl⟩, trivial⟩ ⟨⟨rfl, by omega, .inl rfl⟩, trivial⟩⟩
      rcases Nat.lt_succ_iff_lt_or_eq.1 hj with hj | rfl
      · exact hall j hj
      · exact hQ hQt
  · have hz : i = f.nl := by
      have : (f.nl : Int) ≤ (i : Int) := by subst hO; simpa [std] using h
      omega
    obtain ⟨rfl, rfl⟩ := hE3 (fun j hj => hall j (by omega))
    refine (show SW _ _ _ _ _ _ from ?_)
    refine SW.seqRun tok hO (by cbv <;> rfl) (by trivial) ?_
    exact SW.ret ⟨_, _, rfl, rfl, Eqv.refl _⟩
end Go.Fz
