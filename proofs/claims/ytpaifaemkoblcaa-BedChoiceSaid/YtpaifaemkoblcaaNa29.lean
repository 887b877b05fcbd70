/- Own work of the verifier of watercress: FzB6, FzB7. -/
import Derived.Test.YtpaifaemkoblcaaNa28
set_option linter.unusedVariables false
set_option linter.unusedSimpArgs false
set_option linter.unusedVariables false
namespace Go.Fz
open Go.Proofs
set_option maxRecDepth 100000
def FarmD.suff (f : FarmD) (l : List Nat) : Bool := f.trs.all (f.allFed (f.movK l (f.k0 f.nb)))
def FarmD.fewO (f : FarmD) : Option (List Nat) := (risL f.nb).find? f.suff
def FarmD.fewE (f : FarmD) : Int := if f.bndE = 0 then (match f.fewO with | some _ => 0 | none => 10) else f.bndE
def FarmD.fewL (f : FarmD) : AV := if f.bndE = 0 then (match f.fewO with | some l => zV (nI l) | none => nl3) else nl3
theorem FarmD.fewL_below (f : FarmD) : Below 0 f.fewL := by
  unfold FarmD.fewL
  split
  · split
    · exact zV_below _
    · exact Below.lit
  · exact Below.lit
noncomputable def fwParts : Code × Code := match findRF (bodyF Try.f49) with
  | some p => p
  | none => (.skip, .skip)
def fwL : List (Nat × AV) := [(1, .ptr 0 0), (2, .ptr 1 0), (3, .ptr 2 0), (4, .ptr 3 0), (18, .fn (.func 127) [] [.ptr 35 0])]
noncomputable def fwR : ALoop := { state := .ready, pending := none, tmps := ⟨25, getT fwL⟩, params := #[19], assign := fwParts.1, body := fwParts.2, dfid := 36 }
noncomputable def fwRx : ALoop := { fwR with state := .done, pending := some .ret }
def fwH (f : FarmD) (WC : List AV) (r : ALoop) (X : AV) : Hp := [(37, .loop r), (36, .dfr), (3, .cells none false WC), (2, .cells none false [iV 0]), (1, .cells none false [X]), (0, .cells none false (farmL f))]
theorem fwL_below : AllP (fun p : Nat × AV => Below 40 p.2) fwL := ⟨Below.ptr (by omega), Below.ptr (by omega), Below.ptr (by omega), Below.ptr (by omega), Below.fn (fun _ h => nomatch h) (AllB.ok ⟨Below.ptr (by omega), trivial⟩), trivial⟩
theorem getT_below {n : Nat} : ∀ {l : List (Nat × AV)}, AllP (fun p => Below n p.2) l → ∀ i, Below n (getT l i)
  | [], _, i => Below.any
  | (j, a) :: r, h, i => by
    simp only [getT]
    cases Nat.beq j i with
    | true => exact h.1
    | false => exact getT_below h.2 i
theorem fwH_low {f : FarmD} {WC : List AV} (hW : ∀ a ∈ WC, Below 0 a) {s : LoopState} {c : Option Code} {X : AV} (hX : Below 0 X) : (LowX 38 (fwH f WC { fwR with state := s, pending := c } X) ∧ Hp.get (fwH f WC { fwR with state := s, pending := c } X) 35 = none) ∧ ∀ id o, Hp.get (fwH f WC { fwR with state := s, pending := c } X) id = some o → ObjBelow 40 o := by
  have hp : ∀ {ρ : Nat → Nat} {n j : Nat}, (∀ i, i < 38 → ρ i = i) → 38 ≤ n → j < 38 → RenV ρ n (.ptr j 0) (.ptr j 0) := fun {ρ n j} hρ hn hj => by
    have := RenV.ptr (ρ := ρ) (n := n) (j := j) (off := 0) (by omega)
    rwa [hρ j hj] at this
  refine ⟨⟨?_, rfl⟩, fun id o ho => ?_⟩
  · unfold fwH
    refine LowX.cons (by omega) ⟨rfl, rfl, fun ρ n hρ hn => .base (.loop rfl rfl rfl rfl rfl (by show 36 = ρ 36; rw [hρ 36 (by omega)]) (by show 36 < n; omega) rfl (RenV.getT (l := fwL) ⟨hp hρ hn (by omega), hp hρ hn (by omega), hp hρ hn (by omega), hp hρ hn (by omega), RenV.fn .nil (.cons (hp hρ hn (by omega)) .nil), trivial⟩))⟩ ?_
    refine LowX.cons (by omega) ⟨rfl, rfl, fun ρ n hρ hn => .base .dfr⟩ ?_
    refine LowX.cons (by omega) (LowO.ints hW) ?_
    refine LowX.cons (by omega) (LowO.ints (AllB.ok ⟨Below.lit, trivial⟩)) ?_
    refine LowX.cons (by omega) (LowO.ints (AllB.ok ⟨hX, trivial⟩)) ?_
    exact LowX.cons (by omega) (LowO.ints (farmL_below f)) LowX.nil
  · have := Hp.mem_of_get ho
    simp only [fwH, List.mem_cons, List.not_mem_nil, or_false, Prod.mk.injEq] at this
    rcases this with ⟨_, rfl⟩ | ⟨_, rfl⟩ | ⟨_, rfl⟩ | ⟨_, rfl⟩ | ⟨_, rfl⟩ | ⟨_, rfl⟩
    · exact ⟨fun i => getT_below fwL_below i, by show 36 < 40; omega⟩
    · trivial
    · exact ob_cells hW
    · exact ob_cells (AllB.ok ⟨Below.lit, trivial⟩)
    · exact ob_cells (AllB.ok ⟨hX, trivial⟩)
    · exact ob_cells (farmL_below f)
def fwK (f : FarmD) (WC : List AV) (s : List (List Nat)) (h : Hp) : Prop := (∀ l ∈ s, f.suff l = false) ∧ h = fwH f WC fwR nl3
def fwS (f : FarmD) (WC : List AV) (s : List (List Nat)) (l : List Nat) (h : Hp) : Prop := (∀ l ∈ s, f.suff l = false) ∧ f.suff l = true ∧ h = fwH f WC fwRx (zV (nI l))
set_option maxHeartbeats 8000000 in
theorem fw_step {f : FarmD} (g : f.Good) : liStep (fwK f (workC f (llV f.trs) (f.k0 f.nb))) (fwS f (workC f (llV f.trs) (f.k0 f.nb))) 37 (risL f.nb) := by
  intro s l post h hE ⟨hs, hh⟩
  subst hh
  obtain ⟨O, hO⟩ : ∃ O : Ar, O = std := ⟨_, rfl⟩
  have hnb := g.nb
  have hmem : l ∈ risL f.nb := by rw [hE]; simp
  have hlt := risL_lt hmem
  have hll := risL_len hmem
  have hch : ∀ l ∈ f.trs, l.length = f.ns := fun l hl => (f.trs_ch hl).1
  have hlb := llV_below f.trs
  have e1 := moved98 f hnb (N := f.trs.length) (gg := gT f.trs) hlb (f.k0 f.nb) l hlt (by omega)
  have e2 := feedsAll99 g f.trs (FarmD.trs_len g) hch (f.movK l (f.k0 f.nb))
  have hQ : f.suff l = f.trs.all (f.allFed (f.movK l (f.k0 f.nb))) := rfl
  rw [← hQ] at e2
  have hcw := workC_below' f 0 (llV f.trs) (f.k0 f.nb) hlb
  have hyes : f.suff l = true → ∀ st' : St, 38 ≤ st'.n → (∀ id o, Hp.get (fwH f (workC f (llV f.trs) (f.k0 f.nb)) fwRx (zV (nI l))) id = some o → st'.h.get id = some o) → ∃ h', liR (fwK f (workC f (llV f.trs) (f.k0 f.nb))) (fwS f (workC f (llV f.trs) (f.k0 f.nb))) s l (.lit (.bool false)) h' ∧ Below 0 (AV.lit (.bool false)) ∧ LowX 38 h' ∧ 38 ≤ st'.n ∧ ∀ id o, Hp.get h' id = some o → st'.h.get id = some o := fun hq st' h1 h2 => ⟨_, .inr ⟨rfl, hs, hq, rfl⟩, Below.lit, (fwH_low hcw (s := fwRx.state) (c := fwRx.pending) (zV_below _)).1.1, h1, h2⟩
  have hno : f.suff l = false → ∀ st' : St, 38 ≤ st'.n → (∀ id o, Hp.get (fwH f (workC f (llV f.trs) (f.k0 f.nb)) fwR nl3) id = some o → st'.h.get id = some o) → ∃ h', liR (fwK f (workC f (llV f.trs) (f.k0 f.nb))) (fwS f (workC f (llV f.trs) (f.k0 f.nb))) s l (.lit (.bool true)) h' ∧ Below 0 (AV.lit (.bool true)) ∧ LowX 38 h' ∧ 38 ≤ st'.n ∧ ∀ id o, Hp.get h' id = some o → st'.h.get id = some o := fun hq st' h1 h2 => ⟨_, .inl ⟨rfl, fun l' hl' => by
      rcases List.mem_append.1 hl' with hl' | hl'
      · exact hs l' hl'
      · rw [List.mem_singleton.1 hl']; exact hq, rfl⟩, Below.lit, (fwH_low hcw (s := fwR.state) (c := fwR.pending) Below.lit).1.1, h1, h2⟩
  change Pure Try.prog 98 [workV f (llV f.trs) (f.k0 f.nb), zV (nI l)] (workV f (llV f.trs) (f.movK l (f.k0 f.nb))) at e1
  obtain ⟨RR, hRR⟩ : ∃ r, liR (fwK f (workC f (llV f.trs) (f.k0 f.nb))) (fwS f (workC f (llV f.trs) (f.k0 f.nb))) s l = r := ⟨_, rfl⟩
  rw [hRR] at hyes hno ⊢
  generalize f.suff l = Q at e2 hyes hno
  obtain ⟨N, gg, hlv⟩ : ∃ N g, llV f.trs = .isl N 1 false g := ⟨_, _, rfl⟩
  rw [hlv] at e1 e2 hyes hno ⊢
  obtain ⟨KK, hKK⟩ : ∃ K, f.k0 f.nb = K := ⟨_, rfl⟩
  rw [hKK] at e1 e2 hyes hno ⊢
  obtain ⟨K2, hK2⟩ : ∃ K, f.movK l KK = K := ⟨_, rfl⟩
  rw [hK2] at e1 e2
  obtain ⟨M, FL, hZ⟩ : ∃ M fl, zV (nI l) = intsV M false fl := ⟨_, _, rfl⟩
  rw [hZ] at e1 hyes ⊢
  unfold fwH at hyes hno ⊢
  refine YieldW.of_round (r := fwR) rfl rfl ?_
  refine SW.run tok hO (by cbv <;> rfl) (by trivial) ?_
  refine ⟨fwR, rfl, rfl, SW.block ?_⟩
  obtain ⟨RB, hRB⟩ : ∃ r, r = ({ fwR with state := .busy } : ALoop) := ⟨_, rfl⟩
  rw [← hRB]
  refine SW.seqRun tok hO (by cbv <;> rfl) (by trivial) ?_
  refine OpsW.callP e1 (by cbv <;> rfl) ?_
  refine OpsW.run tok hO (by cbv <;> rfl) (by trivial) ?_
  refine OpsW.callP e2 (by cbv <;> rfl) ?_
  refine OpsW.run tok hO (by cbv <;> rfl) (by trivial) ?_
  refine SW.condS (by cbv <;> rfl) (fun h1 => ?_) (fun h1 => SW.skip ?_)
  · refine SW.seqRun tok hO (by cbv <;> rfl) (by trivial) ?_
    subst hRB
    exact SW.ret ⟨_, rfl, hyes h1 _ (Nat.le_refl _) fun id o ho => ho⟩
  · subst hRB
    exact ⟨_, rfl, hno h1 _ (Nat.le_refl _) fun id o ho => ho⟩
end Go.Fz
set_option linter.unusedVariables false
namespace Go.Fz
open Go.Proofs
set_option maxRecDepth 100000
theorem find_pre {α : Type} {p : α → Bool} {s post : List α} {l : α} (h1 : ∀ x ∈ s, p x = false) (h2 : p l = true) : (s ++ l :: post).find? p = some l := by
  rw [List.find?_append, show s.find? p = none from List.find?_eq_none.2 fun x hx => by rw [h1 x hx]; simp]
  simp [h2]
set_option maxHeartbeats 16000000 in
theorem few_core {f : FarmD} (hs : f.small) (h0 : f.bndE = 0) : Pure Try.prog 49 [farmV f] (.tup [f.fewL, iV f.fewE]) := by
  obtain ⟨O, hO⟩ : ∃ O : Ar, O = std := ⟨_, rfl⟩
  obtain ⟨hck, _, hne⟩ := f.opn_ok h0
  have g := good_of_check hck
  have hnb := g.nb
  have e2 := (open_good hs h0).eqv (args := [farmV f, .lit (.bool true)]) (.cons (Eqv.refl _) (.cons (Eqv.litB true) .nil))
  have hlb := llV_below f.trs
  have hcw := workC_below' f 0 (llV f.trs) (f.k0 f.nb) hlb
  have hli := lists127 (K := fwK f (workC f (llV f.trs) (f.k0 f.nb))) (stop := fwS f (workC f (llV f.trs) (f.k0 f.nb))) (y := 37) (many := f.nb) (by omega) (fun s h hk => by rw [hk.2]; exact fwH_low hcw (s := fwR.state) (c := fwR.pending) Below.lit) (fun s l h hk => by rw [hk.2.2]; exact (fwH_low hcw (s := fwRx.state) (c := fwRx.pending) (zV_below _)).1) (by omega) (fw_step g) (fwH f (workC f (llV f.trs) (f.k0 f.nb)) fwR nl3) ⟨(fun _ h => nomatch h), rfl⟩ 38 (by omega)
  have hli2 := CallW.sub (h1 := (37, .loop fwR) :: (36, .dfr) :: (35, .cells none false [iV (f.nb : Int)]) :: (3, .cells none false (workC f (llV f.trs) (f.k0 f.nb))) :: (2, .cells none false [iV 0]) :: (1, .cells none false [nl3]) :: (0, .cells none false (farmL f)) :: []) (fun id o ho => by
    have := Hp.mem_of_get ho
    simp only [fwH, List.mem_cons, List.not_mem_nil, or_false, Prod.mk.injEq] at this
    rcases this with ⟨rfl, rfl⟩ | ⟨rfl, rfl⟩ | ⟨rfl, rfl⟩ | ⟨rfl, rfl⟩ | ⟨rfl, rfl⟩ | ⟨rfl, rfl⟩ | ⟨rfl, rfl⟩ <;> exact ⟨rfl, by omega⟩) hli
  clear hli
  have hyes : ∀ pre l post, risL f.nb = pre ++ l :: post → (∀ x ∈ pre, f.suff x = false) → f.suff l = true → f.fewL = zV (nI l) ∧ f.fewE = 0 := fun pre l post h1 h2 h3 => by
    have : f.fewO = some l := by unfold FarmD.fewO; rw [h1]; exact find_pre h2 h3
    unfold FarmD.fewL FarmD.fewE
    rw [if_pos h0, if_pos h0, this]
    exact ⟨rfl, rfl⟩
  have hno : (∀ x ∈ risL f.nb, f.suff x = false) → f.fewL = nl3 ∧ f.fewE = 10 := fun h1 => by
    have : f.fewO = none := List.find?_eq_none.2 fun x hx => by rw [h1 x hx]; simp
    unfold FarmD.fewL FarmD.fewE
    rw [if_pos h0, if_pos h0, this]
    exact ⟨rfl, rfl⟩
  have hLb := f.fewL_below
  generalize f.fewL = FLV at hyes hno hLb ⊢
  generalize f.fewE = FE at hyes hno ⊢
  obtain ⟨N, gg, hlv⟩ : ∃ N g, llV f.trs = .isl N 1 false g := ⟨_, _, rfl⟩
  rw [hlv] at e2 hli2 hlb hcw
  obtain ⟨KK, hKK⟩ : ∃ K, f.k0 f.nb = K := ⟨_, rfl⟩
  rw [hKK] at e2 hli2 hcw
  have hls := fun h n => lists95 f.nb h n
  refine pure_of_body tok 4 Try.func49 en49 rfl ⟨farmV_below f, trivial⟩ (Below.tup (AllB.ok ⟨hLb, Below.lit, trivial⟩)) ?_
  refine SW.seqRun tok hO (by cbv <;> rfl) (by trivial) ?_
  refine SW.seqRun tok hO (by cbv <;> rfl) (by trivial) ?_
  refine OpsW.callP e2 (by cbv <;> rfl) ?_
  refine OpsW.run tok hO (by cbv <;> rfl) (by trivial) ?_
  refine SW.seq ?_
  refine SW.seqRun tok hO (by cbv <;> rfl) (by trivial) ?_
  refine SW.condS (by cbv <;> rfl) (fun h1 => ?_) (fun h1 => SW.skip ?_)
  · exfalso; subst hO; simp [std] at h1
  refine (show SW _ _ _ _ _ _ from ?_)
  refine SW.seq ?_
  refine SW.seqRun tok hO (by cbv <;> rfl) (by trivial) ?_
  refine OpsW.callS en95 (CallW.pad (n := 35) (by show 4 ≤ 35; omega) (lists95 f.nb _ 35)) (by cbv <;> rfl) fun r st' hk => ?_
  obtain ⟨rfl, rfl⟩ := hk
  refine OpsW.run tok hO (by cbv <;> rfl) (by trivial) ?_
  refine SW.block ?_
  refine (show SW _ _ _ _ _ ⟨(35, .cells none false [iV (f.nb : Int)]) :: (3, .cells none false (workC f (.isl N 1 false gg) KK)) :: (2, .cells none false [iV 0]) :: (1, .cells none false [nl3]) :: (0, .cells none false (farmL f)) :: [], 36⟩ from ?_)
  refine SW.fmT (len := 25) fwL rfl rfl ⟨⟨rfl, .inl rfl⟩, ⟨rfl, .inl rfl⟩, ⟨rfl, .inl rfl⟩, ⟨rfl, .inl rfl⟩, ⟨rfl, .inl rfl⟩, trivial⟩ (fun id o ho => by
    have := Hp.mem_of_get ho
    simp only [List.mem_cons, Prod.mk.injEq, List.not_mem_nil, or_false] at this
    omega) ?_
  refine SW.rangeFunc (gf := 127) (first := []) (caps := [.ptr 35 0]) (by rfl) en127 ?_
  refine CallW.mono (show CallW Try.prog 127 [.yld 37, .ptr 35 0] ⟨(37, .loop fwR) :: (36, .dfr) :: (35, .cells none false [iV (f.nb : Int)]) :: (3, .cells none false (workC f (.isl N 1 false gg) KK)) :: (2, .cells none false [iV 0]) :: (1, .cells none false [nl3]) :: (0, .cells none false (farmL f)) :: [], 38⟩ _ from hli2) fun r st' hk => ?_
  obtain ⟨h', n, rfl, hn, hl, hk | ⟨pre, l, post, hE, hk⟩⟩ := hk
  · obtain ⟨h1, rfl⟩ := hk
    obtain ⟨rfl, rfl⟩ := hno h1
    refine ⟨fwR, rfl, (fun h => by simp [fwR] at h), ?_⟩
    show SW _ _ _ _ _ _
    refine SW.seqRun tok hO (by cbv <;> rfl) (by trivial) ?_
    exact SW.ret ⟨_, _, rfl, rfl, Eqv.refl _⟩
  · obtain ⟨h1, h2, rfl⟩ := hk
    obtain ⟨rfl, rfl⟩ := hyes pre l post hE h1 h2
    obtain ⟨M, FL, hZ⟩ : ∃ M fl, zV (nI l) = intsV M false fl := ⟨_, _, rfl⟩
    rw [hZ]
    refine ⟨fwRx, rfl, (fun h => by simp [fwRx, fwR] at h), ?_⟩
    exact SW.ret ⟨_, _, rfl, rfl, Eqv.refl _⟩
set_option maxHeartbeats 8000000 in
theorem few_bad {f : FarmD} (hs : f.small) (h0 : f.bndE ≠ 0) : Pure Try.prog 49 [farmV f] (.tup [nl3, iV f.bndE]) := by
  obtain ⟨O, hO⟩ : ∃ O : Ar, O = std := ⟨_, rfl⟩
  have e2 := (open_bad hs h0).eqv (args := [farmV f, .lit (.bool true)]) (.cons (Eqv.refl _) (.cons (Eqv.litB true) .nil))
  have hE : f.opnE true = f.bndE := rfl
  rw [hE] at e2
  generalize f.bndE = E at h0 e2 ⊢
  refine pure_of_body tok 3 Try.func49 en49 rfl ⟨farmV_below f, trivial⟩ (Below.tup (AllB.ok ⟨Below.lit, Below.lit, trivial⟩)) ?_
  refine SW.seqRun tok hO (by cbv <;> rfl) (by trivial) ?_
  refine SW.seqRun tok hO (by cbv <;> rfl) (by trivial) ?_
  refine OpsW.callP e2 (by cbv <;> rfl) ?_
  refine OpsW.run tok hO (by cbv <;> rfl) (by trivial) ?_
  refine SW.seq ?_
  refine SW.seqRun tok hO (by cbv <;> rfl) (by trivial) ?_
  refine SW.condS (by cbv <;> rfl) (fun h1 => ?_) (fun h1 => ?_)
  · refine SW.seqRun tok hO (by cbv <;> rfl) (by trivial) ?_
    exact SW.ret ⟨_, _, rfl, rfl, Eqv.refl _⟩
  · exfalso
    exact h0 (by subst hO; simpa [std] using h1)
theorem fewest49 {f : FarmD} (hs : f.small) : Pure Try.prog 49 [farmV f] (.tup [f.fewL, iV f.fewE]) := by
  by_cases h : f.bndE = 0
  · exact few_core hs h
  · rw [show f.fewL = nl3 from if_neg h, show f.fewE = f.bndE from if_neg h]
    exact few_bad hs h
end Go.Fz
