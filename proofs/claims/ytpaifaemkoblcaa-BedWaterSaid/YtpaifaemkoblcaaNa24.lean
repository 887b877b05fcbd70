/- Own work of the verifier of watercress: FzA10, FzA11, FzA12, FzA13, FzA14, FzA15. -/
import Derived.Test.YtpaifaemkoblcaaNa23
set_option linter.unusedVariables false
set_option linter.unusedSimpArgs false
set_option linter.unusedVariables false
namespace Go.Fz
open Go.Proofs
set_option maxRecDepth 100000
set_option maxHeartbeats 8000000 in
theorem appendSeq_ok {f : FarmD} (g : f.Good) (hsm : f.small) : CallW Try.prog 136 [nl3, .fn (.func 137) [] [.ptr 39 0]] ⟨[(39, farmO f)], 40⟩
    (fun v st' => ∃ q, 40 ≤ q ∧ q < st'.n ∧ v = slG q 1 f.trs.length ∧ ∀ o, Hp.get (objG q 1 (gT f.trs) f.trs.length) q = some o → st'.h.get q = some o) := by
  obtain ⟨O, hO⟩ : ∃ O : Ar, O = std := ⟨_, rfl⟩
  have hc := own137s (K := caK 0) (stop := fun _ _ _ => False) (y := 42) g hsm (by omega) (by omega) (fun s H h => by rw [show H = caH s from h]; exact caH_low s) (fun s l H h => h.elim) (ca_step 0 f.trs (FarmD.trs_len g)) (caH []) rfl rfl 43 (by omega)
  have hc2 := CallW.sub (h1 := (42, .loop caR) :: (41, .dfr) :: (40, .cells none false [nl3]) :: (39, farmO f) :: []) (fun id o ho => by
    have := Hp.mem_of_get ho
    simp only [caH, caF, objG, slG, List.length_nil, List.mem_cons, List.not_mem_nil, or_false, Prod.mk.injEq] at this
    rcases this with ⟨rfl, rfl⟩ | ⟨rfl, rfl⟩ | ⟨rfl, rfl⟩ | ⟨rfl, rfl⟩ <;> exact ⟨rfl, by omega⟩) hc
  clear hc
  obtain ⟨S, hS⟩ : ∃ S, f.trs = S := ⟨_, rfl⟩
  rw [hS] at hc2 ⊢
  refine callW_of_body tok Try.func136 rfl ?_
  refine SW.seqRun tok hO (by cbv <;> rfl) (by trivial) ?_
  refine SW.seq ?_
  refine SW.seqRun tok hO (by cbv <;> rfl) (by trivial) ?_
  refine SW.block ?_
  refine (show SW _ _ _ _ _ ⟨(40, .cells none false [nl3]) :: (39, farmO f) :: [], 41⟩ from ?_)
  refine SW.fmT (len := 13) caL rfl rfl ⟨⟨rfl, .inl rfl⟩, ⟨rfl, .inl rfl⟩, trivial⟩ (fun id o ho => by
    have := Hp.mem_of_get ho
    simp only [List.mem_cons, Prod.mk.injEq, List.not_mem_nil, or_false] at this
    omega) ?_
  refine SW.rangeFunc (gf := 137) (first := []) (caps := [.ptr 39 0]) (by rfl) en137 ?_
  refine CallW.mono (show CallW Try.prog 137 [.yld 42, .ptr 39 0] ⟨(42, .loop caR) :: (41, .dfr) :: (40, .cells none false [nl3]) :: (39, farmO f) :: [], 43⟩ _ from hc2) fun r st' hk => ?_
  obtain ⟨h', q, n, rfl, hn, hq, hqn, hl, hk | ⟨_, _, _, _, hk⟩⟩ := hk
  · have hk : h' = caH S := hk
    subst hk
    refine ⟨caR, rfl, (fun h => by simp [caR] at h), ?_⟩
    have hfin : ∀ st' : St, n = st'.n → (∀ o, Hp.get (objG q 1 (gT S) S.length) q = some o → st'.h.get q = some o) → ∃ q_1, 40 ≤ q_1 ∧ q_1 < st'.n ∧ slG q 1 S.length = slG q_1 1 S.length ∧ ∀ o, Hp.get (objG q_1 1 (gT S) S.length) q_1 = some o → st'.h.get q_1 = some o := fun st' e h => ⟨q, by omega, by omega, rfl, h⟩
    unfold caH caF at *
    obtain ⟨X, hX⟩ : ∃ X, slG q 1 S.length = X := ⟨_, rfl⟩
    obtain ⟨B, hB⟩ : ∃ B, objG q 1 (gT S) S.length = B := ⟨_, rfl⟩
    rw [hX, hB] at hfin ⊢
    show SW _ _ _ _ _ _
    refine SW.seqRun tok hO (by cbv <;> rfl) (by trivial) ?_
    refine SW.ret ⟨_, _, rfl, rfl, hfin _ rfl fun o ho => ?_⟩
    refine (Hp.get_set _ 41 _ q).trans ((if_neg (by omega)).trans ?_)
    show Hp.get ((42, _) :: (41, _) :: (40, _) :: B) q = _
    simp only [Hp.get]
    rw [if_neg (by omega), if_neg (by omega), if_neg (by omega)]
    exact ho
  · exact hk.elim
theorem slG_ren {σ : Nat → Nat} {n q sz L : Nat} (h : σ n = q) : RenV σ (n + 1) (slG n sz L) (slG q sz L) := by
  cases L with
  | zero => exact RenV.closed Below.lit
  | succ L => rw [← h]; exact RenV.sl (Nat.lt_succ_self n)
theorem objG_get {q sz L : Nat} {g : Nat → Nat → AV} {id : Nat} {o : AObj} (h : Hp.get (objG q sz g L) id = some o) : id = q ∧ o = .cells none false (flatG sz g L) := by
  have := objG_mem (Hp.mem_of_get h)
  cases this; exact ⟨rfl, rfl⟩
theorem collect_ok {f : FarmD} (g : f.Good) (hsm : f.small) : CallW Try.prog 121 [.fn (.func 137) [] [.ptr 39 0]] ⟨[(39, farmO f)], 40⟩
    (fun v st' => v = slG 40 1 f.trs.length ∧ st' = ⟨objG 40 1 (gT f.trs) f.trs.length, 41⟩) := by
  obtain ⟨O, hO⟩ : ∃ O : Ar, O = std := ⟨_, rfl⟩
  have hc := appendSeq_ok g hsm
  have hb := gT_below f.trs
  obtain ⟨gg, hgg⟩ : ∃ x, gT f.trs = x := ⟨_, rfl⟩
  obtain ⟨L, hL⟩ : ∃ L, f.trs.length = L := ⟨_, rfl⟩
  rw [hgg] at hc hb ⊢
  rw [hL] at hc ⊢
  refine CallW.renX (k2 := fun v st' => ∃ q, 40 ≤ q ∧ q < st'.n ∧ v = slG q 1 L ∧ ∀ o, Hp.get (objG q 1 gg L) q = some o → st'.h.get q = some o) ?_ fun v st2' ⟨q, h40, hqn, hv, hg⟩ => ?_
  · refine callW_of_body tok Try.func121 rfl ?_
    refine SW.seqRun tok hO (by cbv <;> rfl) (by trivial) ?_
    refine SW.seqRun tok hO (by cbv <;> rfl) (by trivial) ?_
    refine OpsW.callS en136 hc (by cbv <;> rfl) fun v st' hk => ?_
    obtain ⟨q, h1, h2, rfl, h3⟩ := hk
    obtain ⟨X, hX⟩ : ∃ X, slG q 1 L = X := ⟨_, rfl⟩
    rw [hX]
    refine OpsW.run tok hO (by cbv <;> rfl) (by trivial) ?_
    exact SW.ret ⟨_, _, rfl, rfl, q, h1, h2, hX.symm, h3⟩
  · refine ⟨slG 40 1 L, ⟨objG 40 1 gg L, 41⟩, fun i => if i = 40 then q else i, ⟨rfl, rfl⟩, by rw [hv]; exact slG_ren (n := 40) (if_pos rfl), by show 40 ≤ 41; omega, ⟨fun id o ho => ?_, fun i j oi oj hi hj hij => ?_⟩, fun id hid => if_neg (by have : id < 40 := hid; omega)⟩
    · obtain ⟨rfl, rfl⟩ := objG_get ho
      refine ⟨by show 40 < 41; omega, .cells none false (flatG 1 gg L), ?_, .base (.cells (RenVs.closed (flatG_below hb L)))⟩
      show st2'.h.get (if 40 = 40 then q else 40) = _
      rw [if_pos rfl]
      refine hg _ ?_
      cases L with
      | zero => cases ho
      | succ L => simp [objG, Hp.get]
    · have h1 := (objG_get hi).1
      have h2 := (objG_get hj).1
      omega
end Go.Fz
set_option linter.unusedVariables false
namespace Go.Fz
open Go.Proofs
set_option maxRecDepth 100000
def FarmD.opnE (f : FarmD) (B : Bool) : Int := if f.check ≠ 0 then f.check else if B = false then 2 else if f.trs = [] then 11 else 0
def work0 : AV := .agg workC0
def FarmD.trW (f : FarmD) (K : Nat → Int) : AV := workV f (llV f.trs) K
def FarmD.opnW (f : FarmD) (B : Bool) : AV := if f.opnE B = 0 then f.trW (f.k0 f.nb) else work0
theorem FarmD.opnW_below (f : FarmD) (B : Bool) : Below 0 (f.opnW B) := by
  unfold FarmD.opnW
  split
  · exact workV_below f _ _ (llV_below _)
  · exact Below.agg (workC0_below 0)
theorem call_own {R : Hp} {g : FuncId} {args : List AV} {st : St} {r : AV} {h : Hp} {n : Nat} (ha : Apart R st) (hc : CallW Try.prog g args st (fun v st' => v = r ∧ st' = ⟨h, n⟩)) (ho : ∀ id o, h.get id = some o → o.own = true) : CallW Try.prog g args (withR R st) (fun v st' => v = r ∧ st' = ⟨R ++ h, n⟩) :=
  (CallW.frame ha hc (fun v st' ⟨_, h2⟩ => by subst h2; exact fun id o k => .inl (ho id o k))).mono fun v s ⟨st', ⟨h1, h2⟩, h3⟩ => by subst h2; exact ⟨h1, h3⟩
theorem frz_slm {h : Hp} {D : Nat → Bool} {id len sz m : Nat} {ex : Bool} {fm : Option Nat} {cs : List AV} (hd : D id = true) (hg : h.get id = some (.cells fm false cs)) (hl : len * sz ≤ cs.length) : frz h D (m + 1) (.sl id 0 len sz ex) = .isl len sz ex (fun i k => frz h D m (cs.getD (0 + i * sz + k) .any)) := by
  show (if D id = true then (match h.get id with | some (.cells _ false cs) => if 0 + len * sz ≤ cs.length then AV.isl len sz ex (fun i k => frz h D m (cs.getD (0 + i * sz + k) .any)) else .any | _ => .any) else _) = _
  rw [if_pos hd, hg]
  exact if_pos (by omega)
theorem frz_ll {h : Hp} {D : Nat → Bool} {id L m : Nat} {fm : Option Nat} {G : List AV} {s : List (List Int)} (hd : D id = true) (hg : h.get id = some (.cells fm false G)) (hG : flatG 1 (gT s) (L + 1) = G) : Eqv (frz h D (m + 2) (.sl id 0 (L + 1) 1 false)) (.isl (L + 1) 1 false (gT s)) := by
  rw [frz_slm hd hg (by rw [← hG, flatG_length]; omega)]
  refine Eqv.isl rfl fun i k hi hk => Eqv.of ?_
  rw [← hG, List.getD_eq_getElem?_getD, show 0 + i * 1 + k = i * 1 + k by omega, flatG_get 1 _ (L + 1) i k hi hk]
  rfl
set_option maxHeartbeats 8000000 in
theorem open_ok (f : FarmD) (hs : f.small) (B : Bool) : Pure Try.prog 77 [farmV f, .sb B] (.tup [f.opnW B, iV (f.opnE B)]) := by
  obtain ⟨O, hO⟩ : ∃ O : Ar, O = std := ⟨_, rfl⟩
  have e1 := checkFarm_ok f hs
  have hA1 : f.check ≠ 0 → f.opnE B = f.check := fun h => if_pos h
  have hA2 : f.check = 0 → B = false → f.opnE B = 2 := fun h h2 => by unfold FarmD.opnE; rw [if_neg (by simp [h]), if_pos h2]
  have hA3 : f.check = 0 → B = true → f.trs = [] → f.opnE B = 11 := fun h h2 h3 => by unfold FarmD.opnE; rw [if_neg (by simp [h]), if_neg (by simp [h2]), if_pos h3]
  have hA4 : f.check = 0 → B = true → f.trs ≠ [] → f.opnE B = 0 := fun h h2 h3 => by unfold FarmD.opnE; rw [if_neg (by simp [h]), if_neg (by simp [h2]), if_neg h3]
  have hW1 : f.opnE B = 0 → f.opnW B = workV f (llV f.trs) (f.k0 f.nb) := fun h => if_pos h
  have hW2 : f.opnE B ≠ 0 → f.opnW B = work0 := fun h => if_neg h
  have hWb := f.opnW_below B
  have hcol := fun h : f.check = 0 => collect_ok (good_of_check h) hs
  have e2 := fun h : f.check = 0 => start67 (good_of_check h)
  generalize f.opnW B = W at hW1 hW2 hWb ⊢
  generalize f.opnE B = E at hA1 hA2 hA3 hA4 hW1 hW2 ⊢
  obtain ⟨C, hC⟩ : ∃ C, f.check = C := ⟨_, rfl⟩
  rw [hC] at e1 hA1 hA2 hA3 hA4 hcol e2
  refine pure_of_body tok 4 Try.func77 en77 rfl ⟨farmV_below f, Below.sb, trivial⟩ (Below.tup (AllB.ok ⟨hWb, Below.lit, trivial⟩)) ?_
  refine SW.seqRun tok hO (by cbv <;> rfl) (by trivial) ?_
  refine SW.seq ?_
  refine SW.seqRun tok hO (by cbv <;> rfl) (by trivial) ?_
  refine OpsW.callP e1 (by cbv <;> rfl) ?_
  refine OpsW.run tok hO (by cbv <;> rfl) (by trivial) ?_
  refine SW.seqRun tok hO (by cbv <;> rfl) (by trivial) ?_
  refine SW.condS (by cbv <;> rfl) (fun h1 => ?_) (fun h1 => SW.skip ?_)
  · have hC0 : C ≠ 0 := by subst hO; simpa [std] using h1
    obtain rfl := hA1 hC0
    obtain rfl := hW2 hC0
    refine SW.seqRun tok hO (by cbv <;> rfl) (by trivial) ?_
    exact SW.ret ⟨_, _, rfl, rfl, Eqv.refl _⟩
  have hC0 : C = 0 := by subst hO; simpa [std] using h1
  have g := good_of_check (hC.trans hC0)
  have hcol := hcol hC0
  have e2 := e2 hC0
  refine (show SW _ _ _ _ _ _ from ?_)
  refine SW.seq ?_
  refine SW.seqRun tok hO (by cbv <;> rfl) (by trivial) ?_
  refine SW.condS (by cbv <;> rfl) (fun h2 => ?_) (fun h2 => SW.skip ?_)
  · have hB : B = false := by subst hO; simpa [std] using h2
    obtain rfl := hA2 hC0 hB
    obtain rfl := hW2 (by decide)
    refine SW.seqRun tok hO (by cbv <;> rfl) (by trivial) ?_
    exact SW.ret ⟨_, _, rfl, rfl, Eqv.refl _⟩
  have hB : B = true := by subst hO; simpa [std] using h2
  have hA3 := hA3 hC0 hB
  have hA4 := hA4 hC0 hB
  refine (show SW _ _ _ _ _ _ from ?_)
  obtain ⟨KK, hKK⟩ : ∃ K, f.k0 f.nb = K := ⟨_, rfl⟩
  rw [hKK] at e2 hW1
  refine SW.seqRun tok hO (by cbv <;> rfl) (by trivial) ?_
  refine OpsW.callP e2 (by cbv <;> rfl) ?_
  refine OpsW.run tok hO (by cbv <;> rfl) (by trivial) ?_
  refine SW.seqRun tok hO (by cbv <;> rfl) (by trivial) ?_
  refine OpsW.callS en122 (CallW.pad (n := 39) (by show 3 ≤ 39; omega) (own122 f _ 39)) (by cbv <;> rfl) fun r st' hk => ?_
  obtain ⟨rfl, rfl⟩ := hk
  refine OpsW.run tok hO (by cbv <;> rfl) (by trivial) ?_
  have hcall : CallW Try.prog 121 [.fn (.func 137) [] [.ptr 39 0]] ⟨(39, farmO f) :: (2, .cells none false (workC f noTr KK)) :: (1, .cells none false workC0) :: (0, .cells none false (farmL f)) :: [], 40⟩ (fun v st' => v = slG 40 1 f.trs.length ∧ st' = ⟨[(2, .cells none false (workC f noTr KK)), (1, .cells none false workC0), (0, .cells none false (farmL f))] ++ objG 40 1 (gT f.trs) f.trs.length, 41⟩) :=
    CallW.sub (h2 := [(2, .cells none false (workC f noTr KK)), (1, .cells none false workC0), (0, .cells none false (farmL f))] ++ [(39, farmO f)]) (fun id o ho => by
      have := Hp.mem_of_get ho
      simp only [List.cons_append, List.nil_append, List.mem_cons, List.not_mem_nil, or_false, Prod.mk.injEq] at this
      rcases this with ⟨rfl, rfl⟩ | ⟨rfl, rfl⟩ | ⟨rfl, rfl⟩ | ⟨rfl, rfl⟩ <;> exact ⟨rfl, by omega⟩) (call_own (R := [(2, .cells none false (workC f noTr KK)), (1, .cells none false workC0), (0, .cells none false (farmL f))]) (st := ⟨[(39, farmO f)], 40⟩) ⟨fun id o h => by
      have := Hp.mem_of_get h
      simp only [List.mem_cons, List.not_mem_nil, or_false, Prod.mk.injEq] at this
      rcases this with ⟨rfl, rfl⟩ | ⟨rfl, rfl⟩ | ⟨rfl, rfl⟩ <;> rfl, fun id o h => by
      have := Hp.mem_of_get h
      simp only [List.mem_cons, List.not_mem_nil, or_false, Prod.mk.injEq] at this
      rcases this with ⟨rfl, rfl⟩ | ⟨rfl, rfl⟩ | ⟨rfl, rfl⟩ <;> rfl, fun i j oi oj _ hj ⟨f', _, k2⟩ => by
      have := Hp.mem_of_get hj
      simp only [List.mem_cons, List.not_mem_nil, or_false, Prod.mk.injEq] at this
      obtain ⟨_, rfl⟩ := this
      cases k2⟩ hcol (fun id o ho => by rw [(objG_get ho).2]; rfl))
  have hgb := gT_below f.trs
  have hll : llV f.trs = .isl f.trs.length 1 false (gT f.trs) := rfl
  obtain ⟨S, hS⟩ : ∃ S, f.trs = S := ⟨_, rfl⟩
  rw [hS] at hcall hA3 hA4 hW1 hgb hll
  refine OpsW.callS en121 hcall (by cbv <;> rfl) fun r st' hk => ?_
  obtain ⟨rfl, rfl⟩ := hk
  cases S with
  | nil =>
    obtain rfl := hA3 rfl
    obtain rfl := hW2 (by decide)
    refine OpsW.run tok hO (by cbv <;> rfl) (by trivial) ?_
    refine (show SW _ _ _ _ _ _ from ?_)
    refine SW.seq ?_
    refine SW.seqRun tok hO (by cbv <;> rfl) (by trivial) ?_
    refine SW.condS (by cbv <;> rfl) (fun h3 => ?_) (fun h3 => ?_)
    rotate_left
    · exfalso; subst hO; simp [std] at h3
    refine SW.seqRun tok hO (by cbv <;> rfl) (by trivial) ?_
    exact SW.ret ⟨_, _, rfl, rfl, Eqv.refl _⟩
  | cons l S =>
    obtain rfl := hA4 (by simp)
    obtain rfl := hW1 rfl
    rw [hll]
    have hfr := fun (h : Hp) (hg : h.get 40 = some (.cells none false (flatG 1 (gT (l :: S)) (S.length + 1)))) => frz_ll (D := fun _ => true) (m := 0) (s := l :: S) rfl hg rfl
    obtain ⟨gg, hgg⟩ : ∃ x, gT (l :: S) = x := ⟨_, rfl⟩
    rw [hgg] at hgb hfr ⊢
    obtain ⟨L, hL⟩ : ∃ L, S.length = L := ⟨_, rfl⟩
    rw [show (l :: S).length = L + 1 by rw [List.length_cons, hL]]
    rw [hL] at hfr
    obtain ⟨G, hG⟩ : ∃ G, flatG 1 gg (L + 1) = G := ⟨_, rfl⟩
    rw [hG] at hfr
    have hob : objG 40 1 gg (L + 1) = [(40, .cells none false G)] := by rw [← hG]; rfl
    rw [hob]
    refine OpsW.run tok hO (by cbv <;> rfl) (by trivial) ?_
    refine (show SW _ _ _ _ _ _ from ?_)
    refine SW.seq ?_
    refine SW.seqRun tok hO (by cbv <;> rfl) (by trivial) ?_
    refine SW.condS (by cbv <;> rfl) (fun h3 => ?_) (fun h3 => SW.skip ?_)
    · exfalso
      have : ((L + 1 : Nat) : Int) = 0 := by subst hO; simpa [std] using h3
      omega
    refine (show SW _ _ _ _ _ _ from ?_)
    refine SW.seqRun tok hO (by cbv <;> rfl) (by trivial) ?_
    refine SW.ret ⟨_, _, rfl, rfl, ?_⟩
    exact Eqv.tup (.cons (Eqv.agg (.cons (Eqv.refl _) (.cons (Eqv.refl _) (.cons (Eqv.refl _) (.cons (hfr _ rfl) (.cons (Eqv.refl _) (.cons (Eqv.refl _) (.cons (Eqv.refl _) (.cons (Eqv.refl _) (.cons (Eqv.refl _) (.cons (Eqv.refl _) (.cons (Eqv.refl _) (.cons (Eqv.refl _) .nil))))))))))))) (.cons (Eqv.refl _) .nil))
end Go.Fz
set_option linter.unusedVariables false
namespace Go.Fz
section
variable {P : Program} {T : Ti}
def mkmAt (ops : Array Oper) (i : Nat) (f : Fm) : Bool := match ops[i]? with
  | none => false
  | some o => match wantA ops f.ts o with
    | some true => match o.op with
      | .makeMap _ none => true
      | _ => false
    | _ => false
theorem OpsW.mkMap {rd : Option Nat} {ops : Array Oper} {K : Fm → St → Prop} {f : Fm} {st : St} {i : Nat} {l : List Nat} (hx : mkmAt ops i f = true) (h : OpsW P rd ops l K (putAt ops i f (.mp st.n)) (st.push (.map [] 0))) : OpsW P rd ops (i :: l) K f st := by
  unfold mkmAt at hx
  split at hx
  · cases hx
  · rename_i o ho
    split at hx
    · rename_i hw
      split at hx
      · rename_i t hop
        have hput : ∀ v, putAt ops i f v = f.put o.dst v := fun v => by simp [putAt, ho]
        rw [hput] at h
        refine OpsW.value ho hw (fun c hc => by rw [hop] at hc; cases hc) (fun φ w a h2 h3 => ?_) h
        have hp := h2.push (.map #[] 0) (.map [] 0) ⟨w.heap.size, 0, 0⟩ rfl ⟨#[], by rw [Fi.push_new]; exact alloc_heap_new' w _, rfl, fun i x h => by simp at h⟩ (fun _ h => by cases h)
        refine ⟨_, _, .map (some w.heap.size), .inl ?_, ?_, hp.1, φ.push_ext _, hp.2⟩
        · simp [execOp, hop, Instr.makeMap, Result.andThen]
        · have := VR.mp (φ := φ.push ⟨w.heap.size, 0, 0⟩) φ.n (by rw [Fi.push_n]; omega)
          rw [Fi.push_new] at this
          rw [← h2.n]; exact this
      · cases hx
    · cases hx
end
end Go.Fz
namespace Go.Fz
open Go.Proofs
set_option maxRecDepth 100000
section
variable {β : Type} [DecidableEq β]
def pkP (K : Nat → β) : Nat → List (β × Nat) × Nat
  | 0 => ([], 0)
  | i + 1 => (updE (pkP K i).1 (K i) (pkP K i).2, updC (pkP K i).1 (K i) (pkP K i).2)
theorem pkP_born (K : Nat → β) : ∀ n, BornG (pkP K n).1 (pkP K n).2
  | 0 => ⟨(fun _ h => nomatch h), List.nodup_nil⟩
  | n + 1 => (pkP_born K n).upd (K n)
theorem pkP_mem (K : Nat → β) (x : β) : ∀ n, x ∈ (pkP K n).1.map (·.1) ↔ ∃ j, j < n ∧ K j = x
  | 0 => by
    show x ∈ [] ↔ _
    exact ⟨fun h => (by cases h), fun ⟨_, h, _⟩ => absurd h (Nat.not_lt_zero _)⟩
  | n + 1 => by
    show x ∈ (updE _ _ _).map (·.1) ↔ _
    rw [updE_mem, pkP_mem K x n]
    constructor
    · rintro (⟨j, h1, h2⟩ | h)
      · exact ⟨j, by omega, h2⟩
      · exact ⟨n, by omega, h.symm⟩
    · rintro ⟨j, h1, h2⟩
      by_cases e : j = n
      · exact .inr (by rw [← e]; exact h2.symm)
      · exact .inl ⟨j, by omega, h2⟩
theorem pkP_len (K : Nat → β) : ∀ n, (pkP K n).1.length ≤ n
  | 0 => Nat.le_refl _
  | n + 1 => by
    have h1 := pkP_len K n
    have h2 := updE_len (pkP K n).1 (K n) (pkP K n).2
    show (updE _ _ _).length ≤ n + 1
    omega
end
def inFl (p : Int × Int × Int) : Bool := decide (0 ≤ p.1) && decide (p.1 ≤ 1000000) && (decide (0 ≤ p.2.1) && decide (p.2.1 ≤ 1000000)) && (decide (0 ≤ p.2.2) && decide (p.2.2 ≤ 1000000))
abbrev WK := { p : Int × Int × Int // inFl p = true }
def flV (p : WK) : AV := .agg [iV p.1.1, iV p.1.2.1, iV p.1.2.2]
theorem flV_below (p : WK) : Below 0 (flV p) := Below.agg (AllB.ok ⟨Below.lit, Below.lit, Below.lit, trivial⟩)
theorem keyed48 : Maps.Keyed Try.prog 48 := Maps.Keyed.of_law (deep_law_laid (m := 3) laid (by omega) (lt_of_ble (by kernel_rfl)) (by kernel_rfl) (by kernel_rfl))
theorem keyOf_triple {P : Program} {t e : TypeId} {f0 f1 f2 : Field} {d : Nat} (hu : P.underlying t = some (.struct #[f0, f1, f2])) (hsz : P.types.size = d + 1) (h0 : f0.type = e) (h1 : f1.type = e) (h2 : f2.type = e) (o0 : f0.offset = 0) (o1 : f1.offset = 1) (o2 : f2.offset = 2) (n0 : (f0.name != "_") = true) (n1 : (f1.name != "_") = true) (n2 : (f2.name != "_") = true)
    (he : P.underlying e = some (.int .i64)) (c1 : P.cellsOf t = 3) (c3 : P.cellsOf e = 1) (k1 : P.keyType t = true) {a b c : Int} (ha : (Lit.int .i64 a).wf = true) (hb : (Lit.int .i64 b).wf = true) (hc : (Lit.int .i64 c).wf = true) : ∃ l, keyOf P t (.agg #[.int .i64 a, .int .i64 b, .int .i64 c]) = some l := by
  have f1' : Value.formed P t (.agg #[.int .i64 a, .int .i64 b, .int .i64 c]) = true := by simp [Value.formed, hu, c1]
  have hl : ∀ x : Int, (Lit.int .i64 x).wf = true → P.keyLits (d + 1) e [.int .i64 x] = some [.int .i64 x] := fun x hx => by
    unfold Program.keyLits
    rw [he]
    simp [hx]
  have hk : P.keyLits (P.types.size + 1) t [.int .i64 a, .int .i64 b, .int .i64 c] = some [.int .i64 a, .int .i64 b, .int .i64 c] := by
    rw [hsz]
    unfold Program.keyLits
    rw [hu]
    simp only [List.length_cons, List.length_nil, c1]
    rw [if_pos ⟨trivial, by simp [n0, n1, n2]⟩]
    simp [h0, h1, h2, o0, o1, o2, c3, hl a ha, hl b hb, hl c hc]
  refine ⟨.string (keyBytes [.int .i64 a, .int .i64 b, .int .i64 c]), ?_⟩
  unfold keyOf
  rw [hu]
  simp only [k1, f1', Bool.and_true, if_true]
  show Option.map _ (P.keyLits _ t [.int .i64 a, .int .i64 b, .int .i64 c]) = _
  rw [hk]; rfl
theorem fl_key {a b c : Int} (ha : (Lit.int .i64 a).wf = true) (hb : (Lit.int .i64 b).wf = true) (hc : (Lit.int .i64 c).wf = true) : ∃ l, keyOf Try.prog 48 (.agg #[.int .i64 a, .int .i64 b, .int .i64 c]) = some l :=
  keyOf_triple (e := 3) (d := 190) Try.underlying48 (by kernel_rfl) rfl rfl rfl rfl rfl rfl (by decide) (by decide) (by decide) Try.underlying3 (by kernel_rfl) (by kernel_rfl) (by kernel_rfl) ha hb hc
def flKey : KeyF Try.prog 48 flV where
  den p := .agg #[.int .i64 p.1.1, .int .i64 p.1.2.1, .int .i64 p.1.2.2]
  val φ b u h := by
    obtain ⟨us, rfl, h1⟩ := h.agg_inv
    match us, h1 with
    | [_, _, _], .cons h1 (.cons h2 (.cons h3 .nil)) => rw [h1.lit_inv, h2.lit_inv, h3.lit_inv]
  key b := by
    obtain ⟨b, h⟩ := b
    simp only [inFl, Bool.and_eq_true, decide_eq_true_eq] at h
    exact fl_key (wf64 h.1.1.1 h.1.1.2) (wf64 h.1.2.1 h.1.2.2) (wf64 h.2.1 h.2.2)
  inj b c h := by
    obtain ⟨⟨b0, b1, b2⟩, _⟩ := b
    obtain ⟨⟨c0, c1, c2⟩, _⟩ := c
    simp at h
    simp [h]
def toWK (p : Int × Int × Int) : WK := if h : inFl p = true then ⟨p, h⟩ else ⟨(0, 0, 0), rfl⟩
theorem toWK_val {p : Int × Int × Int} (h : inFl p = true) : (toWK p).1 = p := by unfold toWK; rw [dif_pos h]
theorem flV_toWK {p : Int × Int × Int} (h : inFl p = true) : flV (toWK p) = .agg [iV p.1, iV p.2.1, iV p.2.2] := by unfold flV; rw [toWK_val h]
def FarmD.bedF (f : FarmD) (b : Nat) (l : List Int) : Int × Int × Int := (f.water (zL l) b 0, f.water (zL l) b 1, f.water (zL l) b 2)
def FarmD.hadK (f : FarmD) (s : List (List Int)) (b i : Nat) : WK := toWK (f.bedF b (s.getD i []))
set_option maxHeartbeats 16000000 in
theorem had_ok {f : FarmD} (g : f.Good) (s : List (List Int)) (hs : s.length < 1000000) (hch : ∀ l ∈ s, l.length = f.ns) (b : Nat) (hb : b < f.nb) (hin : ∀ l ∈ s, inFl (f.bedF b l) = true) :
    Fresh Try.prog 81 [workV f (llV s) (f.k0 f.nb), iV (b : Int)] (fun k => .mp k) (mapE flV (pkP (f.hadK s b) s.length).1) (pkP (f.hadK s b) s.length).2 := by
  obtain ⟨O, hO⟩ : ∃ O : Ar, O = std := ⟨_, rfl⟩
  have hnat : ∀ i : Nat, O.nat (Int.ofNat i) = i := fun i => by subst hO; rfl
  have hLb := llV_below s
  have hnb := g.nb
  have hcl : ∀ E : List (WK × Nat), ∀ x ∈ mapE flV E, Below 0 x.1 ∧ Below 0 x.2.1 := fun E x hx => by
    obtain ⟨p, _, rfl⟩ := List.mem_map.1 hx
    exact ⟨flV_below _, Below.lit⟩
  have hmem : ∀ i, i < s.length → s.getD i [] ∈ s := fun i hi => by
    rw [List.getD_eq_getElem?_getD, List.getElem?_eq_getElem hi]; exact List.getElem_mem hi
  have hp := fun i (hi : i < s.length) => play68 g (m := s.length) (ex' := false) (h := gT s) hLb (f.k0 f.nb) (hch _ (hmem i hi))
  have hkey := fun i (hi : i < s.length) => flV_toWK (hin _ (hmem i hi))
  obtain ⟨KK, hKK⟩ : ∃ K, f.k0 f.nb = K := ⟨_, rfl⟩
  rw [hKK] at hp ⊢
  have hW : ∀ i, i < s.length → ∃ W, Pure Try.prog 68 [workV f (truthsV s.length false (gT s)) KK, zV (s.getD i [])] (watersV W) ∧ flV (f.hadK s b i) = .agg [iV (W b 0), iV (W b 1), iV (W b 2)] := fun i hi => ⟨_, hp i hi, by
    rw [show playF f KK (zL (s.getD i [])) = f.water (zL (s.getD i [])) by rw [← hKK]; rfl]
    exact hkey i hi⟩
  clear hp hkey
  have hcells := workC_below' f 0 (llV s) KK hLb
  obtain ⟨N, hN⟩ : ∃ N, s.length = N := ⟨_, rfl⟩
  have hll : llV s = .isl N 1 false (gT s) := by unfold llV; rw [hN]
  rw [hll] at hcells hLb ⊢
  rw [hN] at hW hs ⊢
  obtain ⟨FL, hFL⟩ : ∃ fl : Nat → Nat → Int, fl = fun i => zL (s.getD i []) := ⟨_, rfl⟩
  obtain ⟨KF, hKF⟩ : ∃ k, f.hadK s b = k := ⟨_, rfl⟩
  rw [hKF] at hW ⊢
  refine fresh_of_body tok 3 Try.func81 en81 rfl ⟨Below.agg hcells, Below.lit, trivial⟩ (hcl _) ?_
  refine SW.seqRun tok hO (by cbv <;> rfl) (by trivial) ?_
  refine SW.seq (SW.runN tok hO 0 (by cbv <;> rfl) (by trivial) ?_)
  refine OpsW.mkMap (by rfl) ?_
  refine OpsW.run tok hO (by cbv <;> rfl) (by trivial) ?_
  refine SW.seq ?_
  refine SW.seqRun tok hO (by cbv <;> rfl) (by trivial) ?_
  refine (SW.block (SW.loopM (fun i : Nat => ⟨⟨24, getT [(1, iV (b : Int)), (2, .ptr 0 0), (5, .mp 1), (10, .isl N 1 false (gT s)), (11, iV N), (12, iV i)]⟩, []⟩)
    (fun i => ⟨[(1, .map (mapE flV (pkP KF i).1) (pkP KF i).2), (0, .cells none false (workC f (.isl N 1 false (gT s)) KK))], 2⟩) (fun i => N - i) (fun i => i ≤ N) 0
    (fun _ => rfl) (Nat.zero_le _) (Weak.by rfl rfl (by simp) (Nat.le_refl _) (Nat.le_refl _) ⟨⟨rfl, .inl rfl⟩, ⟨rfl, .inl rfl⟩, ⟨rfl, .inl rfl⟩, ⟨rfl, .inl rfl⟩, ⟨rfl, .inl rfl⟩, ⟨rfl, .inl rfl⟩, trivial⟩ ⟨⟨rfl, by show 1 < 2; omega, .inl rfl⟩, ⟨rfl, by show 0 < 2; omega, .inl rfl⟩, trivial⟩) fun i hi => ?_))
  obtain ⟨E, hE⟩ : ∃ E, (pkP KF i).1 = E := ⟨_, rfl⟩
  obtain ⟨c2, hc2⟩ : ∃ E, (pkP KF i).2 = E := ⟨_, rfl⟩
  rw [hE, hc2]
  obtain ⟨ME2, hME2⟩ : ∃ m, mapE flV E = m := ⟨_, rfl⟩
  have hclE := hcl E
  rw [hME2] at hclE ⊢
  refine SW.seqRun tok hO (by cbv <;> rfl) (by trivial) ?_
  refine SW.seq (SW.condS (by cbv <;> rfl) (fun h => SW.skip ?_) (fun h => SW.exit ?_))
  · have hlt : i < N := by
      have : (i : Int) < (N : Int) := by subst hO; simpa [std] using h
      omega
    obtain ⟨W, hp, hkey⟩ := hW i hlt
    obtain ⟨kk, hkk⟩ : ∃ k, KF i = k := ⟨_, rfl⟩
    rw [hkk] at hkey
    have hi0 : (0 : Int) ≤ Int.ofNat i := Int.natCast_nonneg i
    have hni : O.nat (Int.ofNat i) = i := hnat i
    have hgi : gT s (O.nat (Int.ofNat i)) 0 = zV (s.getD i []) := by rw [hni]; rfl
    obtain ⟨Z, hZ⟩ : ∃ z, zV (s.getD i []) = z := ⟨_, rfl⟩
    rw [hZ] at hp hgi
    rw [← hgi] at hp
    obtain ⟨gg, hgg⟩ : ∃ x, gT s = x := ⟨_, rfl⟩
    rw [hgg] at hp hLb hcells ⊢
    refine SW.seq (SW.block ?_)
    refine SW.seqRun tok hO (by cbv <;> rfl) ?_ ?_
    · exact ⟨hi0, Int.ofNat_lt.2 hlt⟩
    refine SW.runN tok hO 3 (by cbv <;> rfl) (by trivial) ?_
    refine OpsW.callP hp (by cbv <;> rfl) ?_
    refine OpsW.runN tok hO 6 (by cbv <;> rfl) ?_ ?_
    · exact ⟨⟨Int.natCast_nonneg b, by show (b : Int) < ((8 : Nat) : Int); omega⟩, by show 0 < 3; omega⟩
    have hsel : ∀ c, O.sel [W 0 c, W 1 c, W 2 c, W 3 c, W 4 c, W 5 c, W 6 c, W 7 c] (O.nat (Int.ofNat b)) = W b c := fun c => by
      rw [hnat]
      subst hO
      exact sel8 (fun j => W j c) b (by omega)
    have hkv : AV.agg [iV (O.sel [W 0 0, W 1 0, W 2 0, W 3 0, W 4 0, W 5 0, W 6 0, W 7 0] (O.nat (Int.ofNat b))), iV (O.sel [W 0 1, W 1 1, W 2 1, W 3 1, W 4 1, W 5 1, W 6 1, W 7 1] (O.nat (Int.ofNat b))), iV (O.sel [W 0 2, W 1 2, W 2 2, W 3 2, W 4 2, W 5 2, W 6 2, W 7 2] (O.nat (Int.ofNat b)))] = flV kk := by rw [hsel, hsel, hsel, hkey]
    refine (show OpsW _ _ _ _ _ _ _ from ?_)
    refine OpsW.mapUpd tok keyed48 flKey (b := kk) (id := 1) (E := E) (clock := c2) ((show updAt _ 6 _ = some (138, .mp 1, AV.agg [iV (O.sel [W 0 0, W 1 0, W 2 0, W 3 0, W 4 0, W 5 0, W 6 0, W 7 0] (O.nat (Int.ofNat b))), iV (O.sel [W 0 1, W 1 1, W 2 1, W 3 1, W 4 1, W 5 1, W 6 1, W 7 1] (O.nat (Int.ofNat b))), iV (O.sel [W 0 2, W 1 2, W 2 2, W 3 2, W 4 2, W 5 2, W 6 2, W 7 2] (O.nat (Int.ofNat b)))], .lit (.bool true)) from by cbv <;> rfl).trans (by rw [hkv])) (by kernel_rfl) (by rw [hME2]; rfl) ?_
    have hs : pkP KF (i + 1) = (updE E kk c2, updC E kk c2) := by rw [← hE, ← hc2, ← hkk]; rfl
    have hclE3 := hcl (updE E kk c2)
    obtain ⟨ME3, hME3⟩ : ∃ m, mapE flV (updE E kk c2) = m := ⟨_, rfl⟩
    obtain ⟨c3, hc3⟩ : ∃ m, updC E kk c2 = m := ⟨_, rfl⟩
    rw [hME3] at hclE3
    rw [hME3, hc3]
    refine OpsW.nil ?_
    refine SW.run tok hO (by cbv <;> rfl) (by trivial) ?_
    refine ⟨i + 1, by omega, hlt, ?_⟩
    rw [hs]
    simp only
    rw [hME3, hc3]
    refine WeakM.by rfl rfl (fun _ h => nomatch h) (Nat.le_refl _) (by show 2 ≤ 2; omega) ⟨⟨rfl, .inr Below.lit⟩, ⟨rfl, .inr (Below.ptr (by omega))⟩, ⟨rfl, .inr (Below.mp (by omega))⟩, ⟨rfl, .inr (Below.up (m := 0) hLb)⟩, ⟨rfl, .inr Below.lit⟩, ⟨inc_ok hO (by omega), .inr Below.lit⟩, trivial⟩
      ⟨⟨rfl, by show 1 < 2; omega, .inr fun x hx => ⟨Below.up (m := 0) (hclE3 x hx).1, Below.up (m := 0) (hclE3 x hx).2⟩⟩, ⟨rfl, by show 0 < 2; omega, .inr ⟨fun x hx => Below.up (m := 0) (hcells x hx), fun _ h => nomatch h⟩⟩, trivial⟩
  · have hge : i = N := by
      have : (N : Int) ≤ (i : Int) := by subst hO; simpa [std] using h
      omega
    subst hge
    rw [hE, hc2, hME2]
    refine (show SW _ _ _ _ _ _ from ?_)
    refine SW.seqRun tok hO (by cbv <;> rfl) (by trivial) ?_
    exact SW.ret ⟨_, _, rfl, rfl, 1, rfl, rfl, NewV.mp⟩
end Go.Fz
set_option linter.unusedVariables false
namespace Go.Fz
open Go.Proofs
set_option maxRecDepth 100000
theorem open_bad {f : FarmD} (hs : f.small) {B : Bool} (h : f.opnE B ≠ 0) : Pure Try.prog 77 [farmV f, .sb B] (.tup [work0, iV (f.opnE B)]) := by
  have := open_ok f hs B
  rwa [show f.opnW B = work0 from if_neg h] at this
theorem open_good {f : FarmD} (hs : f.small) {B : Bool} (h : f.opnE B = 0) : Pure Try.prog 77 [farmV f, .sb B] (.tup [workV f (llV f.trs) (f.k0 f.nb), iV 0]) := by
  have := open_ok f hs B
  rw [show f.opnW B = workV f (llV f.trs) (f.k0 f.nb) from if_pos h, h] at this
  exact this
theorem Eqv.litB (b : Bool) : Eqv (.lit (.bool b)) (.sb b) := fun φ u hv => by obtain rfl := hv.lit_inv; exact .sb b
theorem FarmD.opn_ok {f : FarmD} {B : Bool} (h : f.opnE B = 0) : f.check = 0 ∧ B = true ∧ f.trs ≠ [] := by
  unfold FarmD.opnE at h
  split at h
  · exact absurd h (by assumption)
  · rename_i hz
    split at h
    · cases h
    · rename_i hb
      split at h
      · cases h
      · exact ⟨by simpa using hz, by simpa using hb, by assumption⟩
theorem FarmD.trs_ch {f : FarmD} {l : List Int} (h : l ∈ f.trs) : f.isCh l := (f.mem_chL l).1 (List.mem_filter.1 h).1
theorem FarmD.ch_fl {f : FarmD} (g : f.Good) {l : List Int} (h : f.isCh l) : ∀ s, s < f.ns → 0 ≤ zL l s ∧ zL l s ≤ 30 := fun s hs => by
  have h1 := h.2 s hs
  have h2 := (g.spring s hs).2
  omega
theorem FarmD.bed_in {f : FarmD} (g : f.Good) {l : List Int} (h : f.isCh l) {b : Nat} (hb : b < f.nb) : inFl (f.bedF b l) = true := by
  have hfl := f.ch_fl g h
  obtain ⟨h1, h2, h3⟩ := f.water_eq g (zL l) hfl b hb
  have h4 := f.waN_bound g (zL l) hfl b hb
  have h5 := (g.bed b hb).2.1
  have h6 := pow2_le (b := b) (by have := g.nb; omega)
  have h7 : f.downN (zL l) b = minI (f.waN (zL l) b) (f.notch b) := rfl
  unfold FarmD.bedF
  rw [h1, h2, h3]
  have h8 : 0 ≤ f.downN (zL l) b ∧ f.downN (zL l) b ≤ 9 ∧ f.downN (zL l) b ≤ f.waN (zL l) b := by
    rw [h7]; unfold minI; split <;> omega
  have h9 : sub64 (f.waN (zL l) b) (f.downN (zL l) b) = f.waN (zL l) b - f.downN (zL l) b := sub64_in _ _ (by omega) (by omega)
  rw [h9]
  unfold inFl
  simp only [Bool.and_eq_true, decide_eq_true_eq]
  omega
def FarmD.fedOk (f : FarmD) (b : Nat) (l : List Int) : Bool := decide (f.need b ≤ f.water (zL l) b 1)
def FarmD.fedE (f : FarmD) (w : Int) : Int := f.opnE (f.hasB w)
def FarmD.vrd (f : FarmD) (b : Nat) : Int := if f.trs.any (fun l => !f.fedOk b l) = false then 1 else if f.trs.any (f.fedOk b) = false then 2 else 3
def FarmD.fedV (f : FarmD) (w : Int) : Int := if f.fedE w = 0 then f.vrd w.toNat else 0
theorem pk_any {β : Type} [DecidableEq β] (K : Nat → β) (q : β → Bool) (n : Nat) : ((pkP K n).1.any fun p => q p.1) = (List.range n).any fun j => q (K j) := by
  rw [Bool.eq_iff_iff, List.any_eq_true, List.any_eq_true]
  constructor
  · rintro ⟨p, hp, hq⟩
    obtain ⟨j, hj, e⟩ := (pkP_mem K p.1 n).1 (List.mem_map.2 ⟨p, hp, rfl⟩)
    exact ⟨j, List.mem_range.2 hj, by rw [e]; exact hq⟩
  · rintro ⟨j, hj, hq⟩
    obtain ⟨p, hp, e⟩ := List.mem_map.1 ((pkP_mem K (K j) n).2 ⟨j, List.mem_range.1 hj, rfl⟩)
    exact ⟨p, hp, by rw [e]; exact hq⟩
theorem range_any {α : Type} (q : α → Bool) (d : α) : ∀ (s : List α), ((List.range s.length).any fun j => q (s.getD j d)) = s.any q := fun s => by
  rw [Bool.eq_iff_iff, List.any_eq_true, List.any_eq_true]
  constructor
  · rintro ⟨j, hj, hq⟩
    have hj := List.mem_range.1 hj
    rw [List.getD_eq_getElem?_getD, List.getElem?_eq_getElem hj] at hq
    exact ⟨_, List.getElem_mem hj, hq⟩
  · rintro ⟨a, ha, hq⟩
    obtain ⟨j, hj, e⟩ := List.getElem_of_mem ha
    exact ⟨j, List.mem_range.2 hj, by rw [List.getD_eq_getElem?_getD, List.getElem?_eq_getElem hj, e]; exact hq⟩
theorem FarmD.had_any {f : FarmD} (g : f.Good) {b : Nat} (hb : b < f.nb) (s : List (List Int)) (hch : ∀ l ∈ s, f.isCh l) (q : Int × Int × Int → Bool) : ((pkP (f.hadK s b) s.length).1.any fun p => q p.1.1) = s.any fun l => q (f.bedF b l) := by
  rw [pk_any (f.hadK s b) (fun p => q p.1), ← range_any (fun l => q (f.bedF b l)) [] s]
  rw [Bool.eq_iff_iff, List.any_eq_true, List.any_eq_true]
  have : ∀ j, j < s.length → (f.hadK s b j).1 = f.bedF b (s.getD j []) := fun j hj => by
    refine toWK_val (FarmD.bed_in g (hch _ ?_) hb)
    rw [List.getD_eq_getElem?_getD, List.getElem?_eq_getElem hj]; exact List.getElem_mem hj
  exact ⟨fun ⟨j, h1, h2⟩ => ⟨j, h1, by rw [← this j (List.mem_range.1 h1)]; exact h2⟩, fun ⟨j, h1, h2⟩ => ⟨j, h1, by rw [this j (List.mem_range.1 h1)]; exact h2⟩⟩
theorem RenV.sbL {ρ : Nat → Nat} {n : Nat} {b : Bool} : RenV ρ n (.sb b) (.lit (.bool b)) := fun φ u hv => by obtain rfl := hv.lit_inv; exact .sb b
end Go.Fz
set_option linter.unusedVariables false
namespace Go.Fz
open Go.Proofs
set_option maxRecDepth 100000
structure MapS (E : List (WK × Nat)) (ME : List (AV × AV × Nat)) (cl : Nat) : Prop where
  es : ∀ x ∈ ME, ∃ p ∈ E, x = (flV p.1, .lit (.bool true), p.2)
  born : (ME.all (fun x => Nat.blt x.2.2 cl) && Nat.ble cl cl) = true
  born2 : (Nat.beq cl cl && bornsOk ME) = true
  closed : ∀ x ∈ ME, Below 0 x.1 ∧ Below 0 x.2.1
  len : ME.length = E.length
  nodup : (ME.map (fun x => x.2.2)).Nodup
  mem : ∀ p ∈ E, (flV p.1, AV.lit (.bool true), p.2) ∈ ME
theorem mapS {E : List (WK × Nat)} {cl : Nat} (hb : BornG E cl) : MapS E (mapE flV E) cl := by
  have hes : ∀ x ∈ mapE flV E, ∃ p ∈ E, x = (flV p.1, .lit (.bool true), p.2) := fun x hx => by
    obtain ⟨p, hp, rfl⟩ := List.mem_map.1 hx
    exact ⟨p, hp, rfl⟩
  have hmap : (mapE flV E).map (fun x => x.2.2) = E.map (·.2) := by simp [mapE, List.map_map, Function.comp_def]
  refine ⟨hes, ?_, ?_, fun x hx => ?_, by simp [mapE], by rw [hmap]; exact hb.2, fun p hp => List.mem_map.2 ⟨p, hp, rfl⟩⟩
  · rw [Bool.and_eq_true]
    refine ⟨List.all_eq_true.2 fun x hx => ?_, by rw [Nat.ble_eq]; exact Nat.le_refl _⟩
    obtain ⟨p, hp, rfl⟩ := hes x hx
    show Nat.ble _ _ = true
    rw [Nat.ble_eq]
    exact hb.1 p hp
  · rw [Nat.beq_refl, Bool.true_and]
    unfold bornsOk
    rw [hmap]
    exact decide_eq_true hb.2
  · obtain ⟨p, _, rfl⟩ := hes x hx
    exact ⟨flV_below _, Below.lit⟩
section
variable {E : List (WK × Nat)} {ME : List (AV × AV × Nat)} {cl : Nat}
def lftN (ME : List (AV × AV × Nat)) (x : List (WK × Nat)) : Nat := (ME.filter fun y => !((x.map (·.2)).contains y.2.2)).length
theorem MapS.start (h : MapS E ME cl) : (∀ p ∈ ([] : List (WK × Nat)), p ∈ E) ∧ lftN ME [] + ([] : List (WK × Nat)).length ≤ E.length := ⟨(fun _ h => nomatch h), by
  have := List.length_filter_le (fun y : AV × AV × Nat => !((([] : List (WK × Nat)).map (·.2)).contains y.2.2)) ME
  unfold lftN
  rw [List.length_nil, ← h.len]; omega⟩
theorem MapS.fin (h : MapS E ME cl) (hb : BornG E cl) {x : List (WK × Nat)} (hx : ∀ p ∈ x, p ∈ E) {S : List Nat} (hS : x.map (·.2) = S) (hend : (ME.filter fun y => !(S.contains y.2.2)) = []) : ∀ p ∈ E, p ∈ x := fun p hp => by
  have hin : p.2 ∈ S := by
    have := List.filter_eq_nil_iff.1 hend _ (h.mem p hp)
    simpa using this
  rw [← hS] at hin
  obtain ⟨q, hq, hqp⟩ := List.mem_map.1 hin
  have h5 : q ∈ E.filter (fun y => Nat.beq y.2 p.2) := List.mem_filter.2 ⟨hx q hq, by show Nat.beq q.2 p.2 = true; rw [hqp]; exact Nat.beq_refl _⟩
  rw [filter_one' (g := fun y : WK × Nat => y.2) hb.2 hp, List.mem_singleton] at h5
  rw [← h5]; exact hq
theorem MapS.next (h : MapS E ME cl) {x : List (WK × Nat)} (hx : (∀ p ∈ x, p ∈ E) ∧ lftN ME x + x.length ≤ E.length) {S : List Nat} (hS : x.map (·.2) = S) {p : WK × Nat} (hp : p ∈ E) (hn : S.contains p.2 = false) :
    lftN ME (x ++ [p]) < lftN ME x ∧ (∀ q ∈ x ++ [p], q ∈ E) ∧ lftN ME (x ++ [p]) + (x ++ [p]).length ≤ E.length ∧ (x ++ [p]).map (·.2) = S ++ [p.2] := by
  have h1 : lftN ME (x ++ [p]) < lftN ME x := by
    refine filter_lt (p := (flV p.1, AV.lit (.bool true), p.2)) (fun q h => ?_) (h.mem p hp) ?_ ?_
    · simp at h ⊢; exact h.1
    · show (!(x.map (·.2)).contains p.2) = true
      rw [hS, hn]; rfl
    · show (!((x ++ [p]).map (·.2)).contains p.2) = false
      simp
  refine ⟨h1, fun q hq => ?_, ?_, by rw [List.map_append, hS]; rfl⟩
  · rcases List.mem_append.1 hq with hq | hq
    · exact hx.1 q hq
    · rw [List.mem_singleton.1 hq]; exact hp
  · have := hx.2
    rw [List.length_append, List.length_singleton]; omega
theorem MapS.one (h : MapS E ME cl) {p : WK × Nat} (hp : p ∈ E) : ME.filter (fun x => Nat.beq x.2.2 p.2) = [(flV p.1, .lit (.bool true), p.2)] :=
  filter_one' (g := fun x : AV × AV × Nat => x.2.2) (x := (flV p.1, .lit (.bool true), p.2)) h.nodup (h.mem p hp)
end
set_option maxHeartbeats 16000000 in
theorem fed_core {f : FarmD} (hs : f.small) (w : Int) (h0 : f.fedE w = 0) : Pure Try.prog 30 [farmV f, iV w] (.tup [iV (f.vrd w.toNat), iV 0]) := by
  obtain ⟨O, hO⟩ : ∃ O : Ar, O = std := ⟨_, rfl⟩
  obtain ⟨hck, hB, hne⟩ := f.opn_ok h0
  have g := good_of_check hck
  have e1 := hasBed_ok f w
  have e2 := open_good hs h0
  have hw : 0 ≤ w ∧ w < f.nb := by simpa [FarmD.hasB] using hB
  have hBw : (decide (0 ≤ w) && decide (w < f.nb)) = true := hB
  rw [hBw] at e1
  rw [hB] at e2
  obtain ⟨b, rfl⟩ : ∃ b : Nat, w = (b : Int) := ⟨w.toNat, by omega⟩
  have hb : b < f.nb := by omega
  have htn : ((b : Nat) : Int).toNat = b := rfl
  have hch : ∀ l ∈ f.trs, f.isCh l := fun l hl => f.trs_ch hl
  have e3 := had_ok g f.trs (FarmD.trs_len g) (fun l hl => (hch l hl).1) b hb (fun l hl => FarmD.bed_in g (hch l hl) hb)
  have ha1 := f.had_any g hb f.trs hch (fun t => decide (f.need b ≤ t.2.1))
  have ha2 := f.had_any g hb f.trs hch (fun t => !decide (f.need b ≤ t.2.1))
  have hv : f.vrd ((b : Nat) : Int).toNat = (if ((pkP (f.hadK f.trs b) f.trs.length).1.any fun p => !decide (f.need b ≤ p.1.1.2.1)) = false then 1 else if ((pkP (f.hadK f.trs b) f.trs.length).1.any fun p => decide (f.need b ≤ p.1.1.2.1)) = false then 2 else 3) := by
    rw [ha1, ha2]; rfl
  rw [hv]
  have hborn := pkP_born (f.hadK f.trs b) f.trs.length
  have hlb := llV_below f.trs
  clear ha1 ha2 hv hch hB hBw
  generalize pkP (f.hadK f.trs b) f.trs.length = EC at e3 hborn ⊢
  obtain ⟨E, cl⟩ := EC
  simp only at e3 hborn ⊢
  have hM := mapS hborn
  obtain ⟨ME, hME⟩ : ∃ m, mapE flV E = m := ⟨_, rfl⟩
  rw [hME] at e3 hM
  obtain ⟨N, gg, hll⟩ : ∃ N g, llV f.trs = .isl N 1 false g := ⟨_, _, rfl⟩
  rw [hll] at e2 e3 hlb
  obtain ⟨KK, hKK⟩ : ∃ K, f.k0 f.nb = K := ⟨_, rfl⟩
  rw [hKK] at e2 e3
  have hcells := workC_below' f 0 (.isl N 1 false gg) KK hlb
  obtain ⟨nd, hnd⟩ : ∃ v, f.need b = v := ⟨_, rfl⟩
  rw [hnd]
  refine pure_of_body tok 3 Try.func30 en30 rfl ⟨farmV_below f, Below.lit, trivial⟩ (Below.tup (AllB.ok ⟨Below.lit, Below.lit, trivial⟩)) ?_
  refine SW.seqRun tok hO (by cbv <;> rfl) (by trivial) ?_
  refine SW.seq ((show SW Try.prog none _ (midK 45 [(1, iV (b : Int)), (2, .ptr 0 0), (6, .ptr 1 0), (7, iV 0)] ⟨[(1, .cells none false (workC f (.isl N 1 false gg) KK)), (0, .cells none false (farmL f))], 2⟩) _ _ from ?_).mono fun e fm st hm => ?_)
  · refine SW.runD tok mixed hO (by rfl) (by cbv <;> rfl) (by trivial) ?_
    refine AnyE.many [3, 8] (by cbv <;> rfl) (by rfl) ⟨?_, ?_, trivial⟩
    · refine PickE.callQ e1 (by cbv <;> rfl) (by cbv <;> rfl) ?_ ?_
      · exact (by repeat (first | exact trivial | refine And.intro (by first | exact lv_of hO (by cbv <;> rfl) (by trivial) | (cbv <;> rfl)) ?_))
      refine AnyE.run tok hO (by rfl) (by cbv <;> rfl) (by trivial) ?_
      refine AnyE.many [4, 8] (by cbv <;> rfl) (by rfl) ⟨?_, ?_, trivial⟩
      · refine PickE.callQ e2 (by cbv <;> rfl) (by cbv <;> rfl) ?_ ?_
        · exact (by repeat (first | exact trivial | refine And.intro (by first | exact lv_of hO (by cbv <;> rfl) (by trivial) | (cbv <;> rfl)) ?_))
        refine AnyE.run tok hO (by rfl) (by cbv <;> rfl) (by trivial) ?_
        refine AnyE.effK tok hO (by cbv <;> rfl) (by cbv <;> rfl) (by trivial) ?_ ?_
        · exact (by repeat (first | exact trivial | refine And.intro (by first | exact lv_of hO (by cbv <;> rfl) (by trivial) | (cbv <;> rfl)) ?_))
        refine AnyE.run tok hO (by rfl) (by cbv <;> rfl) (by trivial) ?_
        refine AnyE.effK tok hO (by cbv <;> rfl) (by cbv <;> rfl) (by trivial) ?_ ?_
        · exact (by repeat (first | exact trivial | refine And.intro (by first | exact lv_of hO (by cbv <;> rfl) (by trivial) | (cbv <;> rfl)) ?_))
        refine AnyE.run tok hO (by rfl) (by cbv <;> rfl) (by trivial) ?_
        exact ⟨rfl, _, rfl, ⟨rfl, rfl, rfl, rfl, trivial⟩, rfl⟩
      · refine PickE.eff tok hO (by cbv <;> rfl) (by cbv <;> rfl) (by trivial) ?_ ?_
        · exact (by repeat (first | exact trivial | refine And.intro (by first | exact lv_of hO (by cbv <;> rfl) (by trivial) | (cbv <;> rfl)) ?_))
        refine AnyE.run tok hO (by rfl) (by cbv <;> rfl) (by trivial) ?_
        refine AnyE.callP e2 (by cbv <;> rfl) (by cbv <;> rfl) ?_
        refine AnyE.run tok hO (by rfl) (by cbv <;> rfl) (by trivial) ?_
        refine AnyE.effK tok hO (by cbv <;> rfl) (by cbv <;> rfl) (by trivial) ?_ ?_
        · exact (by repeat (first | exact trivial | refine And.intro (by first | exact lv_of hO (by cbv <;> rfl) (by trivial) | (cbv <;> rfl)) ?_))
        refine AnyE.run tok hO (by rfl) (by cbv <;> rfl) (by trivial) ?_
        exact ⟨rfl, _, rfl, ⟨rfl, rfl, rfl, rfl, trivial⟩, rfl⟩
    · refine PickE.eff tok hO (by cbv <;> rfl) (by cbv <;> rfl) (by trivial) ?_ ?_
      · exact (by repeat (first | exact trivial | refine And.intro (by first | exact lv_of hO (by cbv <;> rfl) (by trivial) | (cbv <;> rfl)) ?_))
      refine AnyE.run tok hO (by rfl) (by cbv <;> rfl) (by trivial) ?_
      refine AnyE.callP e1 (by cbv <;> rfl) (by cbv <;> rfl) ?_
      refine AnyE.run tok hO (by rfl) (by cbv <;> rfl) (by trivial) ?_
      refine AnyE.callP e2 (by cbv <;> rfl) (by cbv <;> rfl) ?_
      refine AnyE.run tok hO (by rfl) (by cbv <;> rfl) (by trivial) ?_
      refine AnyE.effK tok hO (by cbv <;> rfl) (by cbv <;> rfl) (by trivial) ?_ ?_
      · exact (by repeat (first | exact trivial | refine And.intro (by first | exact lv_of hO (by cbv <;> rfl) (by trivial) | (cbv <;> rfl)) ?_))
      refine AnyE.run tok hO (by rfl) (by cbv <;> rfl) (by trivial) ?_
      exact ⟨rfl, _, rfl, ⟨rfl, rfl, rfl, rfl, trivial⟩, rfl⟩
  obtain ⟨rfl, ts, rfl, ⟨g1, g2, g6, g7, _⟩, rfl⟩ := hm
  simp only at g1 g2 g6 g7
  rw [← updT_self g1, ← updT_self g2, ← updT_self g6, ← updT_self g7]
  refine (show SW _ _ _ _ _ _ from ?_)
  refine SW.seq ?_
  refine SW.seqRun tok hO (by cbv <;> rfl) (by trivial) ?_
  refine SW.condS (by cbv <;> rfl) (fun h1 => ?_) (fun h1 => SW.skip ?_)
  · exfalso; subst hO; simp [std] at h1
  refine (show SW _ _ _ _ _ _ from ?_)
  refine SW.seqRun tok hO (by cbv <;> rfl) (by trivial) ?_
  refine SW.seq ?_
  refine SW.seq (SW.runN tok hO 2 (by cbv <;> rfl) (by trivial) ?_)
  refine OpsW.callS e3.ent (e3.call _) (by cbv <;> rfl) fun v1 st' hk => ?_
  obtain ⟨rfl, rfl⟩ := hk
  refine OpsW.range tok (kt := 48) (by cbv <;> rfl) (by kernel_rfl) (by rfl) ?_
  refine OpsW.nil ?_
  refine (SW.block (SW.loopR (fun x : List (WK × Nat) => ⟨⟨45, getT [(1, iV (b : Int)), (2, .ptr 0 0), (8, .sb (x.any fun p => decide (nd ≤ p.1.1.2.1))), (9, .sb (x.any fun p => !decide (nd ≤ p.1.1.2.1))), (25, .ptr 3 0)]⟩, []⟩)
    (fun x => ⟨[(3, .iter 2 cl (x.map (·.2)) cl), (2, .map ME cl), (1, .cells none false (workC f (.isl N 1 false gg) KK)), (0, .cells none false (farmL f))] ++ [], 4⟩)
    (fun x => lftN ME x) (fun x => (∀ p ∈ x, p ∈ E) ∧ lftN ME x + x.length ≤ E.length) [] hM.start (ren1 4 4) ?_ fun x hx => ?_))
  · exact WeakR.up rfl rfl (by simp) (Nat.le_refl _) (.inl rfl) (by show 4 ≤ 4; omega) ⟨RenV.closed Below.lit, RenV.ptr (by omega), RenV.sbL (b := false), RenV.sbL (b := false), RenV.ptr (by omega), trivial⟩
      ⟨⟨by omega, _, rfl, .iter (by omega), .inr rfl⟩, ⟨by omega, _, rfl, .map hM.closed, .inr rfl⟩, ⟨by omega, _, rfl, .cells (RenVs.closed hcells), .inr rfl⟩, ⟨by omega, _, rfl, .cells (RenVs.closed (farmL_below f)), .inr rfl⟩, trivial⟩ (fun p hp => by cases hp)
  obtain ⟨S, hS⟩ : ∃ s, x.map (·.2) = s := ⟨_, rfl⟩
  obtain ⟨FD, hFD⟩ : ∃ q, (x.any fun p => decide (nd ≤ p.1.1.2.1)) = q := ⟨_, rfl⟩
  obtain ⟨DR, hDR⟩ : ∃ q, (x.any fun p => !decide (nd ≤ p.1.1.2.1)) = q := ⟨_, rfl⟩
  rw [hS, hFD, hDR]
  refine SW.seq (SW.runN tok hO 0 (by cbv <;> rfl) (by trivial) ?_)
  refine OpsW.nextL (a := .ptr 3 0) (by cbv <;> rfl) (by rfl) (by rfl) hM.born (fun he => ?_) (fun y hy hny => ?_)
  · have hfin := hM.fin hborn hx.1 hS he
    have hany : ∀ q : WK × Nat → Bool, E.any q = x.any q := fun q => by
      rw [Bool.eq_iff_iff, List.any_eq_true, List.any_eq_true]
      exact ⟨fun ⟨p, h1, h2⟩ => ⟨p, hfin p h1, h2⟩, fun ⟨p, h1, h2⟩ => ⟨p, hx.1 p h1, h2⟩⟩
    rw [hany, hany, hFD, hDR]
    refine OpsW.run tok hO (by cbv <;> rfl) (by trivial) ?_
    refine SW.seq (SW.cond (t := false) (by cbv <;> rfl) (SW.exit ?_))
    refine (show SW _ _ _ _ _ _ from ?_)
    refine SW.seq (SW.block ?_)
    refine SW.seqRun tok hO (by cbv <;> rfl) (by trivial) ?_
    refine SW.condS (by cbv <;> rfl) (fun h1 => ?_) (fun h1 => ?_)
    · have hd : DR = false := by subst hO; simpa [std] using h1
      rw [if_pos hd]
      refine SW.seqRun tok hO (by cbv <;> rfl) (by trivial) ?_
      exact SW.ret ⟨_, _, rfl, rfl, Eqv.refl _⟩
    have hd : ¬ DR = false := by subst hO; simpa [std] using h1
    rw [if_neg hd]
    refine SW.seqRun tok hO (by cbv <;> rfl) (by trivial) ?_
    refine SW.condS (by cbv <;> rfl) (fun h2 => ?_) (fun h2 => SW.skip ?_)
    · have hd : FD = false := by subst hO; simpa [std] using h2
      rw [if_pos hd]
      refine SW.seqRun tok hO (by cbv <;> rfl) (by trivial) ?_
      exact SW.ret ⟨_, _, rfl, rfl, Eqv.refl _⟩
    have hd : ¬ FD = false := by subst hO; simpa [std] using h2
    rw [if_neg hd]
    refine (show SW _ _ _ _ _ _ from ?_)
    refine SW.seqRun tok hO (by cbv <;> rfl) (by trivial) ?_
    exact SW.ret ⟨_, _, rfl, rfl, Eqv.refl _⟩
  · obtain ⟨p, hp, rfl⟩ := hM.es y hy
    obtain ⟨n1, n2, n3, n4⟩ := hM.next hx hS hp hny
    have hone := hM.one hp
    have hF2 : ((x ++ [p]).any fun p => decide (nd ≤ p.1.1.2.1)) = (FD || decide (nd ≤ p.1.1.2.1)) := by rw [List.any_append, hFD]; simp
    have hD2 : ((x ++ [p]).any fun p => !decide (nd ≤ p.1.1.2.1)) = (DR || !decide (nd ≤ p.1.1.2.1)) := by rw [List.any_append, hDR]; simp
    have hnx : ∀ (f' : Fm) (st' : St) (ρ : Nat → Nat), WeakR 4 ρ f' st' ⟨⟨45, getT [(1, iV (b : Int)), (2, .ptr 0 0), (8, .sb (FD || decide (nd ≤ p.1.1.2.1))), (9, .sb (DR || !decide (nd ≤ p.1.1.2.1))), (25, .ptr 3 0)]⟩, []⟩ ⟨[(3, .iter 2 cl (S ++ [p.2]) cl), (2, .map ME cl), (1, .cells none false (workC f (.isl N 1 false gg) KK)), (0, .cells none false (farmL f))] ++ [], 4⟩ →
        ∃ x', lftN ME x' < lftN ME x ∧ ((∀ p ∈ x', p ∈ E) ∧ lftN ME x' + x'.length ≤ E.length) ∧ ∃ ρ, WeakR 4 ρ f' st' ⟨⟨45, getT [(1, iV (b : Int)), (2, .ptr 0 0), (8, .sb (x'.any fun p => decide (nd ≤ p.1.1.2.1))), (9, .sb (x'.any fun p => !decide (nd ≤ p.1.1.2.1))), (25, .ptr 3 0)]⟩, []⟩ ⟨[(3, .iter 2 cl (x'.map (·.2)) cl), (2, .map ME cl), (1, .cells none false (workC f (.isl N 1 false gg) KK)), (0, .cells none false (farmL f))] ++ [], 4⟩ := fun f' st' ρ h => ⟨x ++ [p], n1, ⟨n2, n3⟩, ρ, by rw [n4, hF2, hD2]; exact h⟩
    obtain ⟨⟨⟨a0, a1, a2⟩, hab⟩, born⟩ := p
    simp only at hnx hone
    obtain ⟨S2, hS2⟩ : ∃ s, S ++ [born] = s := ⟨_, rfl⟩
    rw [hS2] at hnx
    show OpsW _ _ _ _ _ _ ⟨(3, .iter 2 cl (S ++ [born]) cl) :: (2, .map ME cl) :: (1, .cells none false (workC f (.isl N 1 false gg) KK)) :: (0, .cells none false (farmL f)) :: [], 4⟩
    rw [hS2]
    refine OpsW.run tok hO (by cbv <;> rfl) (by trivial) ?_
    refine SW.seq (SW.cond (t := true) (by cbv <;> rfl) (SW.skip ?_))
    refine SW.block ?_
    refine SW.seq (SW.runN tok hO 0 (by cbv <;> rfl) (by trivial) ?_)
    have hlast : S2.getLast? = some born := by rw [← hS2]; simp
    refine OpsW.entryL (a := .ptr 3 0) (by cbv <;> rfl) (by rfl) (by rfl) hlast hM.born2 hone ?_
    refine OpsW.run tok hO (by cbv <;> rfl) (by trivial) ?_
    have hnn : f.need (O.nat (Int.ofNat b)) = nd := by
      rw [show O.nat (Int.ofNat b) = b by subst hO; rfl]; exact hnd
    refine (show SW _ _ _ _ _ _ from ?_)
    refine SW.seqRunD tok mixed hO (by kernel_rfl) (by cbv <;> rfl) ?_ ?_
    · exact hw
    refine AnyE.dec tok hO (by kernel_rfl) (by cbv <;> rfl) (by trivial) (fun h2 => ?_) (fun h2 => ?_)
    · have hge : nd ≤ a1 := by rw [← hnn]; subst hO; simpa [std] using h2
      refine AnyE.done (by kernel_rfl) ?_
      refine SW.condS (by cbv <;> rfl) (fun _ => ?_) (fun h3 => absurd h3 (by decide))
      refine SW.run tok hO (by cbv <;> rfl) (by trivial) ?_
      refine hnx _ _ (ren1 4 4) ?_
      have hq : decide (nd ≤ a1) = true := decide_eq_true hge
      rw [hq, Bool.or_true, Bool.not_true, Bool.or_false]
      exact WeakR.up rfl rfl (by simp) (Nat.le_refl _) (.inl rfl) (by show 4 ≤ 4; omega) ⟨RenV.closed Below.lit, RenV.ptr (by omega), RenV.sbL (b := true), RenV.closed Below.sb, RenV.ptr (by omega), trivial⟩
        ⟨⟨by omega, _, rfl, .iter (by omega), .inr rfl⟩, ⟨by omega, _, rfl, .map hM.closed, .inr rfl⟩, ⟨by omega, _, rfl, .cells (RenVs.closed hcells), .inr rfl⟩, ⟨by omega, _, rfl, .cells (RenVs.closed (farmL_below f)), .inr rfl⟩, trivial⟩ (fun p hp => by cases hp)
    · have hge : ¬ nd ≤ a1 := by rw [← hnn]; subst hO; simpa [std] using h2
      refine AnyE.done (by kernel_rfl) ?_
      refine SW.condS (by cbv <;> rfl) (fun h3 => absurd h3 (by decide)) (fun _ => ?_)
      refine SW.run tok hO (by cbv <;> rfl) (by trivial) ?_
      refine hnx _ _ (ren1 4 4) ?_
      have hq : decide (nd ≤ a1) = false := decide_eq_false hge
      rw [hq, Bool.or_false, Bool.not_false, Bool.or_true]
      exact WeakR.up rfl rfl (by simp) (Nat.le_refl _) (.inl rfl) (by show 4 ≤ 4; omega) ⟨RenV.closed Below.lit, RenV.ptr (by omega), RenV.closed Below.sb, RenV.sbL (b := true), RenV.ptr (by omega), trivial⟩
        ⟨⟨by omega, _, rfl, .iter (by omega), .inr rfl⟩, ⟨by omega, _, rfl, .map hM.closed, .inr rfl⟩, ⟨by omega, _, rfl, .cells (RenVs.closed hcells), .inr rfl⟩, ⟨by omega, _, rfl, .cells (RenVs.closed (farmL_below f)), .inr rfl⟩, trivial⟩ (fun p hp => by cases hp)
set_option maxHeartbeats 8000000 in
theorem fed_bad {f : FarmD} (hs : f.small) (w : Int) (h0 : f.fedE w ≠ 0) : Pure Try.prog 30 [farmV f, iV w] (.tup [iV 0, iV (f.fedE w)]) := by
  obtain ⟨O, hO⟩ : ∃ O : Ar, O = std := ⟨_, rfl⟩
  have e1 : Pure Try.prog 83 [farmV f, iV w] (.sb (f.hasB w)) := hasBed_ok f w
  have e2 := open_bad hs h0
  unfold work0 workC0 at e2
  have hE : f.opnE (f.hasB w) = f.fedE w := rfl
  rw [hE] at e2
  generalize f.fedE w = E at h0 e2 ⊢
  generalize f.hasB w = B at e1 e2
  refine pure_of_body tok 3 Try.func30 en30 rfl ⟨farmV_below f, Below.lit, trivial⟩ (Below.tup (AllB.ok ⟨Below.lit, Below.lit, trivial⟩)) ?_
  refine SW.seqRun tok hO (by cbv <;> rfl) (by trivial) ?_
  refine SW.seq ((show SW Try.prog none _ (midK 45 [(1, iV w), (2, .ptr 0 0), (6, .ptr 1 0), (7, iV E)] ⟨[(1, .cells none false workC0), (0, .cells none false (farmL f))], 2⟩) _ _ from ?_).mono fun e fm st hm => ?_)
  · refine SW.runD tok mixed hO (by rfl) (by cbv <;> rfl) (by trivial) ?_
    refine AnyE.many [3, 8] (by cbv <;> rfl) (by rfl) ⟨?_, ?_, trivial⟩
    · refine PickE.callQ e1 (by cbv <;> rfl) (by cbv <;> rfl) ?_ ?_
      · exact (by repeat (first | exact trivial | refine And.intro (by first | exact lv_of hO (by cbv <;> rfl) (by trivial) | (cbv <;> rfl)) ?_))
      refine AnyE.run tok hO (by rfl) (by cbv <;> rfl) (by trivial) ?_
      refine AnyE.many [4, 8] (by cbv <;> rfl) (by rfl) ⟨?_, ?_, trivial⟩
      · refine PickE.callQ e2 (by cbv <;> rfl) (by cbv <;> rfl) ?_ ?_
        · exact (by repeat (first | exact trivial | refine And.intro (by first | exact lv_of hO (by cbv <;> rfl) (by trivial) | (cbv <;> rfl)) ?_))
        refine AnyE.run tok hO (by rfl) (by cbv <;> rfl) (by trivial) ?_
        refine AnyE.effK tok hO (by cbv <;> rfl) (by cbv <;> rfl) (by trivial) ?_ ?_
        · exact (by repeat (first | exact trivial | refine And.intro (by first | exact lv_of hO (by cbv <;> rfl) (by trivial) | (cbv <;> rfl)) ?_))
        refine AnyE.run tok hO (by rfl) (by cbv <;> rfl) (by trivial) ?_
        refine AnyE.effK tok hO (by cbv <;> rfl) (by cbv <;> rfl) (by trivial) ?_ ?_
        · exact (by repeat (first | exact trivial | refine And.intro (by first | exact lv_of hO (by cbv <;> rfl) (by trivial) | (cbv <;> rfl)) ?_))
        refine AnyE.run tok hO (by rfl) (by cbv <;> rfl) (by trivial) ?_
        exact ⟨rfl, _, rfl, ⟨rfl, rfl, rfl, rfl, trivial⟩, rfl⟩
      · refine PickE.eff tok hO (by cbv <;> rfl) (by cbv <;> rfl) (by trivial) ?_ ?_
        · exact (by repeat (first | exact trivial | refine And.intro (by first | exact lv_of hO (by cbv <;> rfl) (by trivial) | (cbv <;> rfl)) ?_))
        refine AnyE.run tok hO (by rfl) (by cbv <;> rfl) (by trivial) ?_
        refine AnyE.callP e2 (by cbv <;> rfl) (by cbv <;> rfl) ?_
        refine AnyE.run tok hO (by rfl) (by cbv <;> rfl) (by trivial) ?_
        refine AnyE.effK tok hO (by cbv <;> rfl) (by cbv <;> rfl) (by trivial) ?_ ?_
        · exact (by repeat (first | exact trivial | refine And.intro (by first | exact lv_of hO (by cbv <;> rfl) (by trivial) | (cbv <;> rfl)) ?_))
        refine AnyE.run tok hO (by rfl) (by cbv <;> rfl) (by trivial) ?_
        exact ⟨rfl, _, rfl, ⟨rfl, rfl, rfl, rfl, trivial⟩, rfl⟩
    · refine PickE.eff tok hO (by cbv <;> rfl) (by cbv <;> rfl) (by trivial) ?_ ?_
      · exact (by repeat (first | exact trivial | refine And.intro (by first | exact lv_of hO (by cbv <;> rfl) (by trivial) | (cbv <;> rfl)) ?_))
      refine AnyE.run tok hO (by rfl) (by cbv <;> rfl) (by trivial) ?_
      refine AnyE.callP e1 (by cbv <;> rfl) (by cbv <;> rfl) ?_
      refine AnyE.run tok hO (by rfl) (by cbv <;> rfl) (by trivial) ?_
      refine AnyE.callP e2 (by cbv <;> rfl) (by cbv <;> rfl) ?_
      refine AnyE.run tok hO (by rfl) (by cbv <;> rfl) (by trivial) ?_
      refine AnyE.effK tok hO (by cbv <;> rfl) (by cbv <;> rfl) (by trivial) ?_ ?_
      · exact (by repeat (first | exact trivial | refine And.intro (by first | exact lv_of hO (by cbv <;> rfl) (by trivial) | (cbv <;> rfl)) ?_))
      refine AnyE.run tok hO (by rfl) (by cbv <;> rfl) (by trivial) ?_
      exact ⟨rfl, _, rfl, ⟨rfl, rfl, rfl, rfl, trivial⟩, rfl⟩
  obtain ⟨rfl, ts, rfl, ⟨g1, g2, g6, g7, _⟩, rfl⟩ := hm
  simp only at g1 g2 g6 g7
  rw [← updT_self g1, ← updT_self g2, ← updT_self g6, ← updT_self g7]
  refine (show SW _ _ _ _ _ _ from ?_)
  refine SW.seq ?_
  refine SW.seqRun tok hO (by cbv <;> rfl) (by trivial) ?_
  refine SW.condS (by cbv <;> rfl) (fun h1 => ?_) (fun h1 => ?_)
  · refine SW.seqRun tok hO (by cbv <;> rfl) (by trivial) ?_
    exact SW.ret ⟨_, _, rfl, rfl, Eqv.refl _⟩
  · exfalso
    exact h0 (by subst hO; simpa [std] using h1)
theorem fed_ok {f : FarmD} (hs : f.small) (w : Int) : Pure Try.prog 30 [farmV f, iV w] (.tup [iV (f.fedV w), iV (f.fedE w)]) := by
  by_cases h : f.fedE w = 0
  · rw [show f.fedV w = f.vrd w.toNat from if_pos h, h]
    exact fed_core hs w h
  · rw [show f.fedV w = 0 from if_neg h]
    exact fed_bad hs w h
end Go.Fz
set_option linter.unusedVariables false
namespace Go.Fz
variable {P : Program} {T : Ti}
def not0 (j : Nat) : Bool := !(Nat.beq j 0)
def mpS (es : List (AV × AV × Nat)) (clock : Nat) : St := ⟨[(0, .map es clock)], 1⟩
theorem mpS_get {es : List (AV × AV × Nat)} {clock id : Nat} {o : AObj} (h : (mpS es clock).h.get id = some o) : id = 0 ∧ o = .map es clock := by
  simp only [mpS, Hp.get] at h
  split at h
  · rename_i hi; cases h; exact ⟨hi.symm, rfl⟩
  · cases h
theorem call_mp {g : FuncId} {args args2 : List AV} {r : AV} {m mid : Nat} {es : List (AV × AV × Nat)} {clock : Nat} {st : St} (hm : st.h.get mid = some (.map es clock))
    (hes : ∀ x ∈ es, Below 0 x.1 ∧ Below 0 x.2.1) (hr : Below 0 r)
    (ha : ∀ (φ : Fi) (us : List Value), VRL φ args us → VRL ⟨fun _ => φ.f mid, 1, φ.z⟩ args2 us)
    (h : CallW P g args2 (mpS es clock) (fun v st' => st'.h.get 0 = some (.map es clock) ∧ freeB st'.h not0 = true ∧ Eqv (frz st'.h not0 m v) r)) : CallW P g args st (fun v st' => v = r ∧ st' = st) := by
  intro φ w cargs n hrel hargs
  obtain ⟨φ0, hφ0⟩ : ∃ φ0 : Fi, φ0 = ⟨fun _ => φ.f mid, 1, φ.z⟩ := ⟨_, rfl⟩
  have f0 : φ0.f 0 = φ.f mid := by rw [hφ0]
  have n0 : φ0.n = 1 := by rw [hφ0]
  have z0 : φ0.z = φ.z := by rw [hφ0]
  have closed : ∀ {a : AV} {v : Value}, Below 0 a → VR φ a v → VR φ0 a v := fun hb h =>
    VR.mono (φ := ⟨φ.f, 0, φ.z⟩) (φ' := φ0) ⟨Nat.zero_le _, fun id hid => absurd hid (Nat.not_lt_zero id), fun b c hb => by rw [z0]; exact hb⟩ (hb _ _ h)
  have hrel0 : Rel φ0 (mpS es clock) w := by
    refine ⟨n0, fun j o h => ?_, fun j o h => ?_, fun j o h => ?_, fun i j oi oj hi hj hij ho hbb => ?_, fun j o f h hf => ?_, fun b c hb' => ?_⟩
    · obtain ⟨rfl, rfl⟩ := mpS_get h; show 0 < 1; omega
    · obtain ⟨rfl, rfl⟩ := mpS_get h; rw [f0]; exact hrel.blk _ _ hm
    · obtain ⟨rfl, rfl⟩ := mpS_get h
      obtain ⟨ces, h1, h2, h3⟩ := hrel.obj mid _ hm
      refine ⟨ces, by rw [f0]; exact h1, h2, fun i x hx => ?_⟩
      obtain ⟨e, k1, k2, k3, k4⟩ := h3 i x hx
      obtain ⟨b1, b2⟩ := hes x (List.mem_of_getElem? hx)
      exact ⟨e, k1, closed b1 k2, closed b2 k3, k4⟩
    · exfalso
      obtain ⟨rfl, rfl⟩ := mpS_get hi
      obtain ⟨rfl, rfl⟩ := mpS_get hj
      exact hij rfl
    · obtain ⟨rfl, rfl⟩ := mpS_get h; cases hf
    · obtain ⟨h1, h2, h3⟩ := hrel.froz b c (by rw [← z0]; exact hb')
      refine ⟨h1, h2, fun j o h ho => ?_⟩
      obtain ⟨rfl, rfl⟩ := mpS_get h
      rw [f0]; exact h3 mid _ hm rfl
  refine (h φ0 w cargs n hrel0 (by have := ha φ _ hargs; rw [hφ0]; exact this)).mono fun e w1 hp => ?_
  obtain ⟨v, cv, st1, φ1, rfl, ⟨hmap, hfree, hv⟩, hvr, hext, hrel1, hfr⟩ := hp
  obtain ⟨hrel2, hfr2⟩ := hrel1.freeze hfree
  have hvr2 := frz_ok (D := not0) hrel1 m hvr
  replace hvr2 := hv _ _ hvr2
  have hfr3 := hfr.trans hfr2
  have e0 : φ1.f 0 = φ.f mid := (hext.f 0 (by rw [n0]; omega)).trans f0
  have hown : ∀ b, Owns φ0 (mpS es clock) b → b = (φ.f mid).b := fun b ⟨j, o, h, ho, hb⟩ => by
    obtain ⟨rfl, rfl⟩ := mpS_get h
    rw [← hb, f0]
  have hkeep : (st1.keep fun i => !not0 i).h.get 0 = some (.map es clock) := Hp.filter_get (p := fun i => !not0 i) hmap (by rfl)
  have hzs : ∀ b c, zOf φ1 st1.h not0 w1 b = some c → φ.z b = some c ∨ w.heap.size ≤ b := fun b c hb => by
    rcases hfr3.zs b c hb with h | h | h
    · exact .inl (by rw [← z0]; exact h)
    · exfalso
      exact (hrel2.froz b c hb).2.2 0 _ hkeep rfl (by show (φ1.f 0).b = b; rw [e0, hown b h])
    · exact .inr h
  have hext3 : Ext φ ⟨φ.f, φ.n, zOf φ1 st1.h not0 w1⟩ := ⟨Nat.le_refl _, fun _ _ => rfl, fun b c hb => zOf_old (hext.z b c (by rw [z0]; exact hb))⟩
  have hback : ∀ {a : AV} {v : Value}, Below 0 a → VR ⟨φ1.f, φ1.n, zOf φ1 st1.h not0 w1⟩ a v → VR ⟨φ.f, φ.n, zOf φ1 st1.h not0 w1⟩ a v := fun hb h =>
    VR.mono (φ := ⟨φ1.f, 0, zOf φ1 st1.h not0 w1⟩) (φ' := ⟨φ.f, φ.n, zOf φ1 st1.h not0 w1⟩) ⟨Nat.zero_le _, fun id hid => absurd hid (Nat.not_lt_zero id), fun b c hb => hb⟩ (hb _ _ h)
  have hsame : ∀ k, k < w.heap.size → k ≠ (φ.f mid).b → w1.heap[k]? = w.heap[k]? := fun k hk hne => hfr3.block k hk fun ho => hne (hown k ho)
  refine ⟨r, cv, st, ⟨φ.f, φ.n, zOf φ1 st1.h not0 w1⟩, rfl, ⟨rfl, rfl⟩, hback hr hvr2, hext3, ?_, ?_⟩
  · refine ⟨hrel.n, hrel.lt, fun id o ho => Nat.lt_of_lt_of_le (hrel.blk id o ho) hfr3.size, fun id o ho => ?_, hrel.sep, hrel.fam, fun b c hb => ?_⟩
    · by_cases hi : id = mid
      · subst hi
        rw [hm] at ho; cases ho
        obtain ⟨ces, h1, h2, h3⟩ := hrel1.obj 0 _ hmap
        refine ⟨ces, by rw [← h1, e0], h2, fun i x hx => ?_⟩
        obtain ⟨e, k1, k2, k3, k4⟩ := h3 i x hx
        obtain ⟨b1, b2⟩ := hes x (List.mem_of_getElem? hx)
        have hz : Ext φ1 ⟨φ1.f, φ1.n, zOf φ1 st1.h not0 w1⟩ := ⟨Nat.le_refl _, fun _ _ => rfl, fun b c hb => zOf_old hb⟩
        exact ⟨e, k1, hback b1 (k2.mono hz), hback b2 (k3.mono hz), k4⟩
      · refine (hrel.obj id o ho).same hext3 (by rw [hrel.n]; exact hrel.lt id o ho) (hsame _ (hrel.blk id o ho) fun he => ?_)
        obtain ⟨⟨f, hf, _⟩, _⟩ := hrel.sep mid id _ o hm ho (Ne.symm hi) rfl he.symm
        cases hf
    · obtain ⟨h1, h2, _⟩ := hrel2.froz b c hb
      refine ⟨h1, h2, fun id o ho hown' hbb => ?_⟩
      rcases hzs b c hb with h3 | h3
      · exact (hrel.froz b c h3).2.2 id o ho hown' hbb
      · have := hrel.blk id o ho
        have hbb' : (φ.f id).b = b := hbb
        omega
  · exact ⟨hfr3.os, hfr3.tape, hfr3.output, hfr3.size, fun k hk hno => hsame k hk (fun he => hno ⟨mid, _, hm, rfl, he.symm⟩), fun k hk => .inl hk, fun b c hb => (hzs b c hb).elim .inl fun h => .inr (.inr h)⟩
end Go.Fz
namespace Go.Fz
open Go.Proofs
set_option maxRecDepth 100000
theorem of78_ok (a0 a1 a2 : Int) : Pure Try.prog 78 [.agg [iV a0, iV a1, iV a2]] (iV a0) := by
  obtain ⟨O, hO⟩ : ∃ O : Ar, O = std := ⟨_, rfl⟩
  refine pure_of_body tok 3 Try.func78 en78 rfl ⟨Below.agg (AllB.ok ⟨Below.lit, Below.lit, Below.lit, trivial⟩), trivial⟩ Below.lit ?_
  refine SW.seqRun tok hO (by cbv <;> rfl) (by trivial) ?_
  refine SW.seqRun tok hO (by cbv <;> rfl) (by trivial) ?_
  exact SW.ret ⟨_, _, rfl, rfl, Eqv.of rfl⟩
theorem of79_ok (a0 a1 a2 : Int) : Pure Try.prog 79 [.agg [iV a0, iV a1, iV a2]] (iV a1) := by
  obtain ⟨O, hO⟩ : ∃ O : Ar, O = std := ⟨_, rfl⟩
  refine pure_of_body tok 3 Try.func79 en79 rfl ⟨Below.agg (AllB.ok ⟨Below.lit, Below.lit, Below.lit, trivial⟩), trivial⟩ Below.lit ?_
  refine SW.seqRun tok hO (by cbv <;> rfl) (by trivial) ?_
  refine SW.seqRun tok hO (by cbv <;> rfl) (by trivial) ?_
  exact SW.ret ⟨_, _, rfl, rfl, Eqv.of rfl⟩
theorem of80_ok (a0 a1 a2 : Int) : Pure Try.prog 80 [.agg [iV a0, iV a1, iV a2]] (iV a2) := by
  obtain ⟨O, hO⟩ : ∃ O : Ar, O = std := ⟨_, rfl⟩
  refine pure_of_body tok 3 Try.func80 en80 rfl ⟨Below.agg (AllB.ok ⟨Below.lit, Below.lit, Below.lit, trivial⟩), trivial⟩ Below.lit ?_
  refine SW.seqRun tok hO (by cbv <;> rfl) (by trivial) ?_
  refine SW.seqRun tok hO (by cbv <;> rfl) (by trivial) ?_
  exact SW.ret ⟨_, _, rfl, rfl, Eqv.of rfl⟩
set_option maxHeartbeats 8000000 in
theorem greatest_ok (n : Nat) (ex : Bool) (fl : Nat → Int) (h0 : 0 < n) (hn : n < 1100000) : Pure Try.prog 123 [intsV n ex fl] (iV (grN (fl 0) (fun i => fl (i + 1)) (n - 1))) := by
  obtain ⟨O, hO⟩ : ∃ O : Ar, O = std := ⟨_, rfl⟩
  have hnat : ∀ i : Nat, O.nat (Int.ofNat i) = i := fun i => by subst hO; rfl
  have h00 : (0 : Int) < Int.ofNat n := Int.ofNat_lt.2 h0
  refine pure_of_body tok 3 Try.func123 en123 rfl ⟨intsV_below _ _ _, trivial⟩ Below.lit ?_
  refine SW.seqRun tok hO (by cbv <;> rfl) (by trivial) ?_
  refine SW.seq ?_
  refine SW.seqRun tok hO (by cbv <;> rfl) (by trivial) ?_
  refine SW.condS (by cbv <;> rfl) (fun h => ?_) (fun h => SW.skip ?_)
  · exfalso
    have : n < 1 := by subst hO; simp [std] at h; omega
    omega
  refine SW.seqRun tok hO (by cbv <;> rfl) ?_ ?_
  · exact ⟨Int.le_refl _, h00⟩
  refine SW.seq ?_
  refine SW.seqRun tok hO (by cbv <;> rfl) (by trivial) ?_
  refine (SW.block (SW.loopF (fun i : Nat => ⟨⟨25, getT [(0, intsV n ex fl), (3, iV (grN (fl 0) (fun i => fl (i + 1)) i)), (4, iV (i + 1 : Nat))]⟩, []⟩) (fun _ => ⟨[], 0⟩) (fun i => n - i) (fun i => i + 1 ≤ n) 0
    (fun _ => rfl) h0 (Weak.by rfl rfl (by simp) (Nat.le_refl _) (Nat.le_refl _) ⟨⟨rfl, .inl rfl⟩, ⟨by show AV.lit (.int .i64 (fl (O.nat 0))) = _; rw [show O.nat 0 = 0 from hnat 0]; rfl, .inl rfl⟩, ⟨rfl, .inl rfl⟩, trivial⟩ trivial) fun i hi => ?_))
  obtain ⟨v, hv⟩ : ∃ v, grN (fl 0) (fun i => fl (i + 1)) i = v := ⟨_, rfl⟩
  obtain ⟨j, hj⟩ : ∃ j, i + 1 = j := ⟨_, rfl⟩
  rw [hv, hj]
  refine SW.seq ?_
  refine SW.seqRun tok hO (by cbv <;> rfl) (by trivial) ?_
  refine SW.condS (by cbv <;> rfl) (fun h => SW.skip ?_) (fun h => SW.exit ?_)
  · have hlt : j < n := by subst hO; simpa [std] using h
    have hi0 : (0 : Int) ≤ Int.ofNat j := Int.natCast_nonneg j
    refine SW.seq (SW.block ?_)
    refine SW.run tok hO (by cbv <;> rfl) ?_ ?_
    · exact ⟨hi0, Int.ofNat_lt.2 hlt⟩
    refine SW.run tok hO (by cbv <;> rfl) (by trivial) ?_
    have hm : O.mx v (fl (O.nat (Int.ofNat j))) = grN (fl 0) (fun i => fl (i + 1)) (i + 1) := by
      rw [hnat]
      show _ = if fl (i + 1) > grN (fl 0) (fun i => fl (i + 1)) i then fl (i + 1) else grN (fl 0) (fun i => fl (i + 1)) i
      rw [hv, hj]; subst hO; rfl
    exact ⟨i + 1, by omega, by omega, Weak.by rfl rfl (fun _ h => nomatch h) (Nat.le_refl _) (Nat.le_refl _) ⟨⟨rfl, .inl rfl⟩, ⟨congrArg (fun z => AV.lit (.int .i64 z)) hm, .inl rfl⟩, ⟨by rw [hj]; exact inc_ok hO (by omega), .inl rfl⟩, trivial⟩ trivial⟩
  · have hge : j = n := by
      have : n ≤ j := by subst hO; simpa [std] using h
      omega
    have hi1 : n - 1 = i := by omega
    rw [hi1, hv]
    refine SW.seqRun tok hO (by cbv <;> rfl) (by trivial) ?_
    exact SW.ret ⟨_, _, rfl, rfl, Eqv.of rfl⟩
theorem leastN_le (a : Int) (fl : Nat → Int) : ∀ n, leastN a fl n = leN a fl n
  | 0 => rfl
  | n + 1 => by
    show minI (leastN a fl n) (fl n) = if fl n < leN a fl n then fl n else leN a fl n
    rw [leastN_le a fl n]
    rfl
end Go.Fz
