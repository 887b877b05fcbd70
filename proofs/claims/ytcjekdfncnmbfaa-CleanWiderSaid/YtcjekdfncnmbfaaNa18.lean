/- Own work of the verifier of watercress: FzCl28, FzCl31, FzCl29, FzCl30, FzKo, FzCl32, FzCl33. -/
import Derived.Test.YtcjekdfncnmbfaaNa16
import Derived.Test.YtcjekdfncnmbfaaNa17
import Derived.Test.YtcjekdfncnmbfaaNa9
set_option linter.unusedVariables false
set_option linter.unusedSimpArgs false
set_option linter.unusedVariables false
namespace Go.Fz
open Go.Proofs
set_option maxRecDepth 100000
def f0 : Nat → Int := fun _ => 0
def gS (s : List (Nat → Int)) : Nat → Nat → AV := fun i k => iV ((s.getD i f0) k)
theorem gS_below (s : List (Nat → Int)) (i k : Nat) : Below 0 (gS s i k) := Below.lit
theorem gS_app (s : List (Nat → Int)) (f : Nat → Int) : flatG 6 (gS s) s.length ++ arrC f = flatG 6 (gS (s ++ [f])) (s ++ [f]).length := by
  rw [List.length_append, List.length_singleton]
  show _ = flatG 6 (gS (s ++ [f])) s.length ++ cellsFrom (gS (s ++ [f]) s.length) 0 6
  have e1 : flatG 6 (gS (s ++ [f])) s.length = flatG 6 (gS s) s.length := flatG_congr fun i k hi => by
    show iV (((s ++ [f]).getD i f0) k) = iV ((s.getD i f0) k)
    rw [List.getD_eq_getElem?_getD, List.getD_eq_getElem?_getD, List.getElem?_append_left hi]
  have e2 : (s ++ [f]).getD s.length f0 = f := by simp [List.getD_eq_getElem?_getD]
  have e3 : cellsFrom (gS (s ++ [f]) s.length) 0 6 = arrC f := by
    show [iV (((s ++ [f]).getD s.length f0) 0), iV (((s ++ [f]).getD s.length f0) 1), iV (((s ++ [f]).getD s.length f0) 2), iV (((s ++ [f]).getD s.length f0) 3), iV (((s ++ [f]).getD s.length f0) 4), iV (((s ++ [f]).getD s.length f0) 5)] = _
    rw [e2]; rfl
  rw [e1, e3]
noncomputable def caParts : Code × Code := match findRF (bodyF Try.f113) with
  | some p => p
  | none => (.skip, .skip)
def caL : List (Nat × AV) := [(2, .ptr 3 0), (6, .fn (.func 109) [] [.ptr 1 0, .ptr 2 0])]
noncomputable def caR : ALoop := { state := .ready, pending := none, tmps := ⟨13, getT caL⟩, params := #[7], assign := caParts.1, body := caParts.2, dfid := 4 }
def caF (y : YardD) (N : Nat) (r : ALoop) (X : AV) (B : Hp) : Hp :=
  (5, .loop r) :: (4, .dfr) :: (3, .cells none false [X]) :: (2, .cells none false [.isl N 1 false natC]) :: (1, .cells none false (yardC y)) :: (0, .cells none false (yardC y)) :: B
noncomputable def caH (y : YardD) (N : Nat) (s : List (Nat → Int)) (q : Nat) : Hp := caF y N caR (slG q 6 s.length) (objG q 6 (gS s) s.length)
theorem caF_low {y : YardD} {N : Nat} {st : LoopState} {c : Option Code} {X : Nat → AV} {B : Nat → Hp} (hX : MvO 49 (fun q => .cells none false [X q])) (hB : LowM 49 B) : LowM 49 (fun q => caF y N { caR with state := st, pending := c } (X q) (B q)) := by
  have hp : ∀ {ρ : Nat → Nat} {n j : Nat}, (∀ i, i < 49 → i ≠ 48 → ρ i = i) → 49 ≤ n → j < 49 → j ≠ 48 → RenV ρ n (.ptr j 0) (.ptr j 0) := fun {ρ n j} hρ hn hj h48 => by
    have := RenV.ptr (ρ := ρ) (n := n) (j := j) (off := 0) (by omega)
    rwa [hρ j hj h48] at this
  refine LowM.cons (o := fun _ => .loop { caR with state := st, pending := c }) (by omega) (by omega) (MvO.of rfl rfl fun ρ n hρ hn => .base (.loop rfl rfl rfl rfl rfl (by show 4 = ρ 4; rw [hρ 4 (by omega) (by omega)]) (by show 4 < n; omega) rfl
    (RenV.getT (l := caL) ⟨hp hρ hn (by omega) (by omega), RenV.fn .nil (.cons (hp hρ hn (by omega) (by omega)) (.cons (hp hρ hn (by omega) (by omega)) .nil)), trivial⟩))) ?_
  refine LowM.cons (o := fun _ => .dfr) (by omega) (by omega) (MvO.of rfl rfl fun ρ n hρ hn => .base .dfr) ?_
  refine LowM.cons (o := fun q => .cells none false [X q]) (by omega) (by omega) hX ?_
  refine LowM.cons (o := fun _ => .cells none false [.isl N 1 false natC]) (by omega) (by omega) (MvO.ints (AllB.ok ⟨Below.isl fun _ _ _ _ => Below.lit, trivial⟩)) ?_
  refine LowM.cons (o := fun _ => .cells none false (yardC y)) (by omega) (by omega) (MvO.ints (yardC_below y)) ?_
  exact LowM.cons (o := fun _ => .cells none false (yardC y)) (by omega) (by omega) (MvO.ints (yardC_below y)) hB
theorem objG_low {m sz L : Nat} {g : Nat → Nat → AV} (hg : ∀ i k, Below 0 (g i k)) : LowM m (fun q => objG q sz g L) := by
  cases L with
  | zero => exact LowM.nil
  | succ L => exact LowM.one (o := fun _ => .cells none false (flatG sz g (L + 1))) (MvO.ints (flatG_below hg _))
theorem slG_low {m sz L : Nat} : MvO m (fun q => .cells none false [slG q sz L]) := by
  cases L with
  | zero => exact MvO.ints (l := [nl3]) (AllB.ok ⟨Below.lit, trivial⟩)
  | succ L => exact MvO.slice
theorem caH_low (y : YardD) (N : Nat) (s : List (Nat → Int)) : LowM 49 (caH y N s) := caF_low (st := caR.state) (c := caR.pending) slG_low (objG_low (gS_below s))
def appS (s : List (Nat → Int)) (f : Nat → Int) : List (Nat → Int) := s ++ [f]
def caK (y : YardD) (N : Nat) (s : List (Nat → Int)) (H : Nat → Hp) : Prop := H = caH y N s
set_option maxHeartbeats 4000000 in
theorem ca_core (y : YardD) (N : Nat) (s : List (Nat → Int)) (f : Nat → Int) (hmu : s.length < 1000000) (KK : AV → (Nat → Hp) → Prop)
    (hend : ∀ st' : St, st'.n = 52 → (∀ id o, Hp.get (caH y N (s ++ [f]) 51) id = some o → st'.h.get id = some o ∨ (id = 51 ∧ ∃ fm ro l, o = .cells none ro l ∧ st'.h.get id = some (.cells fm ro l))) → LowF 49 KK (.lit (.bool true)) st') :
    YieldW Try.prog 5 [.agg (arrC f)] ⟨caH y N s 48, 49⟩ (LowF 49 KK) := by
  obtain ⟨O, hO⟩ : ∃ O : Ar, O = std := ⟨_, rfl⟩
  have happ := gS_app s f
  unfold caH at hend ⊢
  rw [List.length_append, List.length_singleton] at happ hend
  obtain ⟨g2, hg2⟩ : ∃ g, gS (s ++ [f]) = g := ⟨_, rfl⟩
  rw [hg2] at happ hend
  obtain ⟨g1, hg1⟩ : ∃ g, gS s = g := ⟨_, rfl⟩
  rw [hg1] at happ ⊢
  obtain ⟨L, hL⟩ : ∃ L, s.length = L := ⟨_, rfl⟩
  rw [hL] at happ hend hmu ⊢
  have hob : objG 51 6 g2 (L + 1) = [(51, .cells none false (flatG 6 g2 (L + 1)))] := rfl
  rw [hob] at hend
  obtain ⟨G2, hG2⟩ : ∃ G, flatG 6 g2 (L + 1) = G := ⟨_, rfl⟩
  rw [hG2] at happ hend
  unfold caF at hend ⊢
  have hget : ∀ (h' : Hp) (fm : Option Nat), h'.get 5 = some (.loop caR) → h'.get 4 = some .dfr → h'.get 3 = some (.cells none false [slG 51 6 (L + 1)]) → h'.get 2 = some (.cells none false [.isl N 1 false natC]) → h'.get 1 = some (.cells none false (yardC y)) → h'.get 0 = some (.cells none false (yardC y)) → h'.get 51 = some (.cells fm false G2) →
      ∀ id o, Hp.get [(5, .loop caR), (4, .dfr), (3, .cells none false [slG 51 6 (L + 1)]), (2, .cells none false [.isl N 1 false natC]), (1, .cells none false (yardC y)), (0, .cells none false (yardC y)), (51, .cells none false G2)] id = some o → h'.get id = some o ∨ (id = 51 ∧ ∃ fm ro l, o = .cells none ro l ∧ h'.get id = some (.cells fm ro l)) := fun h' fm k5 k4 k3 k2 k1 k0 k51 id o ho => by
    have := Hp.mem_of_get ho
    simp only [List.mem_cons, Prod.mk.injEq, List.not_mem_nil, or_false] at this
    rcases this with ⟨rfl, rfl⟩ | ⟨rfl, rfl⟩ | ⟨rfl, rfl⟩ | ⟨rfl, rfl⟩ | ⟨rfl, rfl⟩ | ⟨rfl, rfl⟩ | ⟨rfl, rfl⟩
    · exact .inl k5
    · exact .inl k4
    · exact .inl k3
    · exact .inl k2
    · exact .inl k1
    · exact .inl k0
    · exact .inr ⟨rfl, fm, false, G2, rfl, k51⟩
  refine YieldW.of_round (r := caR) rfl rfl ?_
  cases L with
  | zero =>
    refine SW.run tok hO (by cbv <;> rfl) (by trivial) ?_
    refine ⟨caR, rfl, rfl, SW.block ?_⟩
    obtain ⟨RB, hRB⟩ : ∃ r, r = ({ caR with state := .busy } : ALoop) := ⟨_, rfl⟩
    rw [← hRB]
    refine SW.runN tok hO 3 (by cbv <;> rfl) (by trivial) ?_
    refine OpsW.appNil tok (by cbv <;> rfl) (by rfl) (by kernel_rfl) (by rfl) (by rfl) ?_
    refine OpsW.run tok hO (by cbv <;> rfl) (by trivial) ?_
    subst hRB
    exact ⟨_, rfl, hend _ rfl (hget _ none rfl rfl rfl rfl rfl rfl (congrArg (fun z => some (AObj.cells none false z)) happ))⟩
  | succ L =>
    obtain ⟨G, hG⟩ : ∃ G, G = flatG 6 g1 (L + 1) := ⟨_, rfl⟩
    have hGo : objG 48 6 g1 (L + 1) = [(48, .cells none false G)] := by rw [hG]; rfl
    rw [hGo]
    refine SW.run tok hO (by cbv <;> rfl) (by trivial) ?_
    refine ⟨caR, rfl, rfl, SW.block ?_⟩
    obtain ⟨RB, hRB⟩ : ∃ r, r = ({ caR with state := .busy } : ALoop) := ⟨_, rfl⟩
    rw [← hRB]
    refine SW.runN tok hO 3 (by cbv <;> rfl) (by trivial) ?_
    refine OpsW.appOne (g := g1) tok (by cbv <;> rfl) (by rfl) (by rfl) hG (by kernel_rfl) (by rfl) (by rfl) (by omega) fun G' hG' => ?_
    refine OpsW.run tok hO (by cbv <;> rfl) (by trivial) ?_
    subst hRB
    have hG2' : G' = G2 := hG'.trans happ
    exact ⟨_, rfl, hend _ rfl (hget _ (some 48) rfl rfl rfl rfl rfl rfl (congrArg (fun z => some (AObj.cells (some 48) false z)) hG2'))⟩
theorem ca_step (y : YardD) (N : Nat) : bgStep appS (caK y N) (fun _ _ _ => False) 5 List.length := by
  intro s f H hmu hH
  have hH : H = caH y N s := hH
  subst hH
  exact YieldW.fam (by omega) (ca_core y N s f hmu _ fun st' e h => ⟨caH y N (s ++ [f]), 51, .inl ⟨rfl, rfl⟩, Below.lit, caH_low y N (s ++ [f]), by omega, .inr ⟨by omega, by omega⟩, h⟩)
def YardD.allS (y : YardD) : List (Nat → Int) := foldS y appS (List.range y.nb) [] (fun _ => 0) []
set_option maxHeartbeats 4000000 in
theorem appendSeq_ok (y : YardD) (hfit : y.Fit) : CallW Try.prog 113 [nl3, .fn (.func 109) [] [.ptr 1 0, .ptr 2 0]] ⟨[(2, .cells none false [.isl y.nb 1 false natC]), (1, .cells none false (yardC y)), (0, .cells none false (yardC y))], 3⟩
    (fun v st' => ∃ q, q < st'.n ∧ v = slG q 6 y.allS.length ∧ ∀ o, Hp.get (objG q 6 (gS y.allS) y.allS.length) q = some o → st'.h.get q = some o) := by
  obtain ⟨O, hO⟩ : ∃ O : Ar, O = std := ⟨_, rfl⟩
  have hsc := sched109 (μ := List.length) (fun s f => by simp [appS]) (by omega) (fun s h hk => by rw [show h = caH y (List.range y.nb).length s from hk]; exact caH_low y _ s) hfit (ca_step y (List.range y.nb).length) (List.range y.nb) List.pairwise_lt_range (fun p hp => List.mem_range.1 hp) false (fun j => (j : Int)) (fun i hi => by
      rw [List.length_range] at hi
      simp [List.getD_eq_getElem?_getD, List.getElem?_range hi]) [] rfl (caH y (List.range y.nb).length []) 6 (by omega) 1 2 ⟨none, false, rfl⟩ ⟨none, false, rfl⟩ rfl
  rw [List.length_range] at hsc
  have hS : y.allS = foldS y appS (List.range y.nb) [] (fun _ => 0) [] := rfl
  unfold scQ scK at hsc
  rw [← hS] at hsc
  obtain ⟨N, hN⟩ : ∃ N, y.nb = N := ⟨_, rfl⟩
  rw [hN] at hsc ⊢
  obtain ⟨S, hSe⟩ : ∃ S, y.allS = S := ⟨_, rfl⟩
  rw [hSe] at hsc ⊢
  refine callW_of_body tok Try.func113 rfl ?_
  refine SW.seqRun tok hO (by cbv <;> rfl) (by trivial) ?_
  refine SW.seq ?_
  refine SW.seqRun tok hO (by cbv <;> rfl) (by trivial) ?_
  refine SW.block ?_
  refine SW.fmT (len := 13) caL rfl rfl ⟨⟨rfl, .inl rfl⟩, ⟨rfl, .inl rfl⟩, trivial⟩ (fun id o ho => by
    have := Hp.mem_of_get ho
    simp only [List.mem_cons, Prod.mk.injEq, List.not_mem_nil, or_false] at this
    omega) ?_
  refine SW.rangeFunc (gf := 109) (first := []) (caps := [.ptr 1 0, .ptr 2 0]) (by rfl) en109 ?_
  refine CallW.mono (show CallW Try.prog 109 [.yld 5, .ptr 1 0, .ptr 2 0] ⟨caH y N [] 48, 6⟩ _ from hsc) fun r st' hk => ?_
  obtain ⟨h', q, n, rfl, hn, hq, hqn, hl, hk | ⟨g, s', _, _, hk⟩⟩ := hk
  · have hk : h' = caH y N S := hk
    subst hk
    refine ⟨caR, rfl, (fun h => by simp [caR] at h), ?_⟩
    have hfin : ∀ st' : St, n = st'.n → (∀ o, Hp.get (objG q 6 (gS S) S.length) q = some o → st'.h.get q = some o) → ∃ q_1, q_1 < st'.n ∧ slG q 6 S.length = slG q_1 6 S.length ∧ ∀ o, Hp.get (objG q_1 6 (gS S) S.length) q_1 = some o → st'.h.get q_1 = some o := fun st' e h => ⟨q, by omega, rfl, h⟩
    unfold caH caF at *
    obtain ⟨X, hX⟩ : ∃ X, slG q 6 S.length = X := ⟨_, rfl⟩
    obtain ⟨B, hB⟩ : ∃ B, objG q 6 (gS S) S.length = B := ⟨_, rfl⟩
    rw [hX, hB] at hfin ⊢
    show SW _ _ _ _ _ _
    refine SW.seqRun tok hO (by cbv <;> rfl) (by trivial) ?_
    refine SW.ret ⟨_, _, rfl, rfl, hfin _ rfl fun o ho => ?_⟩
    refine (Hp.get_set _ 4 _ q).trans ((if_neg (by omega)).trans ?_)
    show Hp.get ((5, _) :: (4, _) :: (3, _) :: (2, _) :: (1, _) :: (0, _) :: B) q = _
    simp only [Hp.get]
    rw [if_neg (by omega), if_neg (by omega), if_neg (by omega), if_neg (by omega), if_neg (by omega), if_neg (by omega)]
    exact ho
  · exact hk.elim
end Go.Fz
set_option linter.unusedVariables false
namespace Go.Fz
open Go.Proofs
set_option maxRecDepth 100000
def YardD.rgt (y : YardD) (f : Nat → Int) (i : Nat) : Bool := inB (f (y.cb i).toNat) (y.clo i) (y.chi i)
def YardD.wrN (y : YardD) (f : Nat → Int) (n : Nat) : List Nat := (List.range n).filter fun i => !y.rgt f i
theorem YardD.wrN_succ (y : YardD) (f : Nat → Int) (n : Nat) : y.wrN f (n + 1) = y.wrN f n ++ (if y.rgt f n = true then [] else [n]) := by
  unfold YardD.wrN
  rw [List.range_succ, List.filter_append]
  congr 1
  cases h : y.rgt f n <;> simp [h]
def lsC (l : List Nat) : Nat → Nat → AV := intC fun j => ((l.getD j 0 : Nat) : Int)
theorem lsC_below (l : List Nat) (i k : Nat) : Below 0 (lsC l i k) := Below.lit
theorem lsC_app (l : List Nat) (i : Nat) : flatG 1 (lsC l) l.length ++ [iV (i : Int)] = flatG 1 (lsC (l ++ [i])) (l ++ [i]).length := by
  rw [List.length_append, List.length_singleton]
  show _ = flatG 1 (lsC (l ++ [i])) l.length ++ [iV (((l ++ [i]).getD l.length 0 : Nat) : Int)]
  have e1 : flatG 1 (lsC (l ++ [i])) l.length = flatG 1 (lsC l) l.length := flatG_congr fun j k hj => by
    show iV (((l ++ [i]).getD j 0 : Nat) : Int) = iV ((l.getD j 0 : Nat) : Int)
    rw [List.getD_eq_getElem?_getD, List.getD_eq_getElem?_getD, List.getElem?_append_left hj]
  have e2 : (l ++ [i]).getD l.length 0 = i := by simp [List.getD_eq_getElem?_getD]
  rw [e1, e2]
set_option maxHeartbeats 8000000 in
theorem wrongIn_ok (y : YardD) (f : Nat → Int) (hc : y.nc < 1000) (hcb : ∀ i, i < y.nc → 0 ≤ y.cb i ∧ y.cb i < 6) : Pure Try.prog 85 [yardV y, .agg (arrC f)] (lsV (y.wrN f y.nc)) := by
  obtain ⟨O, hO⟩ : ∃ O : Ar, O = std := ⟨_, rfl⟩
  have hnat : ∀ i : Nat, O.nat (Int.ofNat i) = i := fun i => by subst hO; rfl
  refine pure_of_body tok 3 Try.func85 en85 rfl ⟨yardV_below y, Below.agg (arrC_below f), trivial⟩ (lsV_below _) ?_
  refine SW.seqRun tok hO (by cbv <;> rfl) (by trivial) ?_
  refine SW.seqRun tok hO (by cbv <;> rfl) (by trivial) ?_
  refine SW.seq ?_
  refine SW.seqRun tok hO (by cbv <;> rfl) (by trivial) ?_
  refine (SW.block (SW.loopR (fun i : Nat => ⟨⟨30, getT [(2, .ptr 0 0), (3, .ptr 1 0), (5, slG 2 1 (y.wrN f i).length), (9, clmsV y), (10, iV y.nc), (11, iV i)]⟩, []⟩) (fun i => ⟨[(1, .cells none false (arrC f)), (0, .cells none false (yardC y))] ++ objG 2 1 (lsC (y.wrN f i)) (y.wrN f i).length, 3⟩) (fun i => y.nc - i) (fun i => i ≤ y.nc) 0 (Nat.zero_le _) (ren1 2 2) ?_ fun i hi => ?_))
  · refine WeakR.up rfl rfl (by simp) (Nat.le_refl _) (.inl rfl) (by show 2 ≤ 3; omega) ⟨RenV.ptr (by omega), RenV.ptr (by omega), RenV.closed Below.lit, RenV.closed (clmsV_below y), RenV.closed Below.lit, RenV.closed Below.lit, trivial⟩ ⟨⟨by omega, _, rfl, .cells (RenVs.closed (arrC_below f)), .inr rfl⟩, ⟨by omega, _, rfl, .cells (RenVs.closed (yardC_below y)), .inr rfl⟩, trivial⟩ (fun p hp => by cases hp)
  obtain ⟨W, hW⟩ : ∃ W, y.wrN f i = W := ⟨_, rfl⟩
  have hWs := y.wrN_succ f i
  rw [hW] at hWs
  show SW _ _ _ _ ⟨⟨30, getT [(2, .ptr 0 0), (3, .ptr 1 0), (5, slG 2 1 (y.wrN f i).length), (9, clmsV y), (10, iV y.nc), (11, iV i)]⟩, []⟩ ⟨[(1, .cells none false (arrC f)), (0, .cells none false (yardC y))] ++ objG 2 1 (lsC (y.wrN f i)) (y.wrN f i).length, 3⟩
  rw [hW]
  obtain ⟨X, hX⟩ : ∃ X, slG 2 1 W.length = X := ⟨_, rfl⟩
  obtain ⟨B, hB⟩ : ∃ B, objG 2 1 (lsC W) W.length = B := ⟨_, rfl⟩
  rw [hX, hB]
  refine SW.seqRun tok hO (by cbv <;> rfl) (by trivial) ?_
  refine SW.seq (SW.condS (by cbv <;> rfl) (fun h => SW.skip ?_) (fun h => SW.exit ?_))
  · have hlt : i < y.nc := by
      have : (i : Int) < (y.nc : Int) := by subst hO; simpa [std] using h
      omega
    refine SW.seq (SW.block ?_)
    refine SW.seqRun tok hO (by cbv <;> rfl) ?_ ?_
    · exact ⟨by show (0 : Int) ≤ (i : Int); omega, by show (i : Int) < (y.nc : Int); omega⟩
    have hni : O.nat (Int.ofNat i) = i := hnat i
    have hcbi := hcb i hlt
    have hk6 : (y.cb i).toNat < 6 := by omega
    have hnc : O.nat (y.cb i) = (y.cb i).toNat := by subst hO; rfl
    have hsel : O.sel [f 0, f 1, f 2, f 3, f 4, f 5] (O.nat (y.cb (O.nat (Int.ofNat i)))) = f (y.cb i).toNat := by
      rw [hni, hnc]
      subst hO
      show [f 0, f 1, f 2, f 3, f 4, f 5].getD (y.cb i).toNat 0 = _
      generalize (y.cb i).toNat = k at hk6
      rcases (by omega : k = 0 ∨ k = 1 ∨ k = 2 ∨ k = 3 ∨ k = 4 ∨ k = 5) with rfl | rfl | rfl | rfl | rfl | rfl <;> rfl
    have hq1 : O.nat (y.cb (O.nat (Int.ofNat i))) < 6 := by rw [hni, hnc]; exact hk6
    have hq2 : 0 ≤ y.cb (O.nat (Int.ofNat i)) ∧ y.cb (O.nat (Int.ofNat i)) < ((6 : Nat) : Int) := by rw [hni]; exact hcbi
    have hh := has_ok (y.clo (O.nat (Int.ofNat i))) (y.chi (O.nat (Int.ofNat i))) (O.sel [f 0, f 1, f 2, f 3, f 4, f 5] (O.nat (y.cb (O.nat (Int.ofNat i)))))
    have hin : inB (O.sel [f 0, f 1, f 2, f 3, f 4, f 5] (O.nat (y.cb (O.nat (Int.ofNat i))))) (y.clo (O.nat (Int.ofNat i))) (y.chi (O.nat (Int.ofNat i))) = y.rgt f i := by rw [hsel, hni]; rfl
    rw [hin] at hh
    obtain ⟨R, hR⟩ : ∃ R, y.rgt f i = R := ⟨_, rfl⟩
    rw [hR] at hh hWs
    refine SW.seqRunD tok mixed hO (by kernel_rfl) (by cbv <;> rfl) ?_ ?_
    · exact ⟨hq1, hq2⟩
    refine AnyE.callP hh (by cbv <;> rfl) (by cbv <;> rfl) ?_
    have hnx : ∀ W' : List Nat, y.wrN f (i + 1) = W' → ∀ (f' : Fm) (st' : St) (ρ : Nat → Nat), WeakR 2 ρ f' st' ⟨⟨30, getT [(2, .ptr 0 0), (3, .ptr 1 0), (5, slG 2 1 W'.length), (9, clmsV y), (10, iV y.nc), (11, iV ((i + 1 : Nat) : Int))]⟩, []⟩ ⟨[(1, .cells none false (arrC f)), (0, .cells none false (yardC y))] ++ objG 2 1 (lsC W') W'.length, 3⟩ →
        ∃ x', y.nc - x' < y.nc - i ∧ x' ≤ y.nc ∧ ∃ ρ, WeakR 2 ρ f' st' ⟨⟨30, getT [(2, .ptr 0 0), (3, .ptr 1 0), (5, slG 2 1 (y.wrN f x').length), (9, clmsV y), (10, iV y.nc), (11, iV (x' : Int))]⟩, []⟩ ⟨[(1, .cells none false (arrC f)), (0, .cells none false (yardC y))] ++ objG 2 1 (lsC (y.wrN f x')) (y.wrN f x').length, 3⟩ := fun W' e f' st' ρ h => ⟨i + 1, by omega, by omega, ρ, by rw [e]; exact h⟩
    refine AnyE.dec tok hO (by kernel_rfl) (by cbv <;> rfl) (by trivial) (fun h2 => ?_) (fun h2 => ?_)
    · have hRf : R = false := by subst hO; simpa [std] using h2
      refine AnyE.done (by kernel_rfl) ?_
      refine SW.condS (by cbv <;> rfl) (fun h3 => ?_) (fun h3 => absurd h3 (by decide))
      rw [if_neg (by rw [hRf]; simp)] at hWs
      have happ := lsC_app W i
      obtain ⟨g2, hg2⟩ : ∃ g, lsC (W ++ [i]) = g := ⟨_, rfl⟩
      have hlen : (W ++ [i]).length = W.length + 1 := by rw [List.length_append, List.length_singleton]
      have hb2 : ∀ a b, Below 0 (g2 a b) := fun a b => by rw [← hg2]; exact lsC_below _ _ _
      obtain ⟨g1, hg1⟩ : ∃ g, lsC W = g := ⟨_, rfl⟩
      rw [hg1] at hB happ
      rw [hg2, hlen] at happ
      have hnx := hnx _ hWs
      rw [hlen, hg2] at hnx
      obtain ⟨L, hL⟩ : ∃ L, W.length = L := ⟨_, rfl⟩
      rw [hL] at happ hX hB hnx
      have hLi : L ≤ i := by rw [← hL, ← hW]; exact Nat.le_trans (List.length_filter_le _ _) (by rw [List.length_range]; exact Nat.le_refl _)
      cases L with
      | zero =>
        subst hX hB
        refine SW.runN tok hO 3 (by cbv <;> rfl) (by trivial) ?_
        refine OpsW.appNil tok (by cbv <;> rfl) (by rfl) (by kernel_rfl) (by rfl) (by rfl) ?_
        refine OpsW.run tok hO (by cbv <;> rfl) (by trivial) ?_
        refine SW.run tok hO (by cbv <;> rfl) (by trivial) ?_
        refine hnx _ _ (ren1 2 5) ?_
        refine WeakR.up rfl rfl (by simp) (Nat.le_refl _) (.inr (by omega)) (by omega) ⟨RenV.ptr (by omega), RenV.ptr (by omega), RenV.sl (by omega), RenV.closed (clmsV_below y), RenV.closed Below.lit, RenV.inc hO (by omega), trivial⟩ ⟨⟨by omega, _, rfl, .cells (RenVs.closed (arrC_below f)), .inr rfl⟩, ⟨by omega, _, rfl, .cells (RenVs.closed (yardC_below y)), .inr rfl⟩, trivial⟩ (fun p hp => ?_)
        obtain rfl := objG_mem hp
        exact ⟨by omega, _, rfl, .cells (RenVs.of_eq happ (flatG_below hb2 1)), .inl rfl⟩
      | succ L =>
        obtain ⟨G, hG⟩ : ∃ G, G = flatG 1 g1 (L + 1) := ⟨_, rfl⟩
        have hGo : objG 2 1 g1 (L + 1) = [(2, .cells none false G)] := by rw [hG]; rfl
        rw [hGo] at hB
        subst hX hB
        refine SW.runN tok hO 3 (by cbv <;> rfl) (by trivial) ?_
        refine OpsW.appOne (g := g1) tok (by cbv <;> rfl) (by rfl) (by rfl) hG (by kernel_rfl) (by rfl) (by rfl) (by omega) fun G' hG' => ?_
        refine OpsW.run tok hO (by cbv <;> rfl) (by trivial) ?_
        refine SW.run tok hO (by cbv <;> rfl) (by trivial) ?_
        refine hnx _ _ (ren1 2 5) ?_
        refine WeakR.up rfl rfl (by simp) (Nat.le_refl _) (.inr (by omega)) (by omega) ⟨RenV.ptr (by omega), RenV.ptr (by omega), RenV.sl (by omega), RenV.closed (clmsV_below y), RenV.closed Below.lit, RenV.inc hO (by omega), trivial⟩ ⟨⟨by omega, _, rfl, .cells (RenVs.closed (arrC_below f)), .inr rfl⟩, ⟨by omega, _, rfl, .cells (RenVs.closed (yardC_below y)), .inr rfl⟩, trivial⟩ (fun p hp => ?_)
        obtain rfl := objG_mem hp
        exact ⟨by omega, _, rfl, .cells (RenVs.of_eq (hG'.trans happ) (flatG_below hb2 (L + 1 + 1))), .inl rfl⟩
    · have hRt : R = true := by subst hO; simpa [std] using h2
      refine AnyE.done (by kernel_rfl) ?_
      refine SW.condS (by cbv <;> rfl) (fun h3 => absurd h3 (by decide)) (fun h3 => SW.skip ?_)
      rw [if_pos hRt, List.append_nil] at hWs
      have hnx := hnx _ hWs
      rw [hX, hB] at hnx
      show SW _ _ _ _ _ _
      refine SW.run tok hO (by cbv <;> rfl) (by trivial) ?_
      refine hnx _ _ (ren1 2 2) ?_
      have hXr : RenV (ren1 2 2) 3 X X := by
        rw [← hX]
        cases W.length with
        | zero => exact RenV.closed Below.lit
        | succ L => exact RenV.sl (by omega)
      refine WeakR.up rfl rfl (by simp) (Nat.le_refl _) (.inl rfl) (by omega) ⟨RenV.ptr (by omega), RenV.ptr (by omega), hXr, RenV.closed (clmsV_below y), RenV.closed Below.lit, RenV.inc hO (by omega), trivial⟩ ⟨⟨by omega, _, rfl, .cells (RenVs.closed (arrC_below f)), .inr rfl⟩, ⟨by omega, _, rfl, .cells (RenVs.closed (yardC_below y)), .inr rfl⟩, trivial⟩ (fun p hp => ?_)
      rw [← hB] at hp ⊢
      have := objG_mem hp
      cases hL : W.length with
      | zero => rw [hL] at hp; cases hp
      | succ L =>
        rw [hL] at this
        subst this
        exact ⟨by omega, _, rfl, .cells (RenVs.closed (flatG_below (lsC_below W) _)), .inl rfl⟩
  · have hz : y.nc = i := by
      have : (y.nc : Int) ≤ (i : Int) := by subst hO; simpa [std] using h
      omega
    refine SW.seqRun tok hO (by cbv <;> rfl) (by trivial) ?_
    refine SW.ret ⟨_, _, rfl, rfl, ?_⟩
    rw [hz, hW, ← hX, ← hB]
    cases hL : W.length with
    | zero => unfold lsV; rw [hL]; exact Eqv.nil
    | succ L =>
      unfold lsV
      rw [hL]
      show Eqv (frz _ _ 3 (.sl 2 0 (L + 1) 1 false)) _
      rw [frz_slE (fm := none) (G := flatG 1 (lsC W) (L + 1)) rfl rfl (by rw [flatG_length]; omega)]
      exact Eqv.isl rfl fun i' k hi' hk => Eqv.of (frz_flat hi' hk rfl)
end Go.Fz
set_option linter.unusedVariables false
namespace Go.Fz
open Go.Proofs
set_option maxRecDepth 100000
def lsQ (S : List (Nat → Int)) (q : Nat) (st' : St) : Prop := q < st'.n ∧ ∀ o, Hp.get (objG q 6 (gS S) S.length) q = some o → st'.h.get q = some o
theorem lsQ_nil {q : Nat} {st' : St} (h : q < st'.n) : lsQ [] q st' := ⟨h, fun o ho => by cases ho⟩
set_option maxHeartbeats 4000000 in
theorem collect_ok (y : YardD) (hfit : y.Fit) : CallW Try.prog 104 [.fn (.func 109) [] [.ptr 1 0, .ptr 2 0]] ⟨[(2, .cells none false [.isl y.nb 1 false natC]), (1, .cells none false (yardC y)), (0, .cells none false (yardC y))], 3⟩
    (fun v st' => ∃ q, v = slG q 6 y.allS.length ∧ lsQ y.allS q st') := by
  obtain ⟨O, hO⟩ : ∃ O : Ar, O = std := ⟨_, rfl⟩
  have hc := appendSeq_ok y hfit
  obtain ⟨N, hN⟩ : ∃ N, y.nb = N := ⟨_, rfl⟩
  rw [hN] at hc ⊢
  refine callW_of_body tok Try.func104 rfl ?_
  refine SW.seqRun tok hO (by cbv <;> rfl) (by trivial) ?_
  refine SW.seqRun tok hO (by cbv <;> rfl) (by trivial) ?_
  refine OpsW.callS en113 hc (by cbv <;> rfl) fun v st' hk => ?_
  obtain ⟨q, h1, rfl, h2⟩ := hk
  obtain ⟨X, hX⟩ : ∃ X, slG q 6 y.allS.length = X := ⟨_, rfl⟩
  rw [hX]
  refine OpsW.run tok hO (by cbv <;> rfl) (by trivial) ?_
  exact SW.ret ⟨_, _, rfl, rfl, q, hX.symm, h1, h2⟩
def YardD.anyE (y : YardD) (B : Bool) : Int := if y.check ≠ 0 then y.check else if B = false then 2 else if y.allS = [] then 10 else 0
def YardD.anyL (y : YardD) (B : Bool) : List (Nat → Int) := if y.anyE B = 0 then y.allS else []
theorem YardD.any_none {y : YardD} {B : Bool} (h : y.anyE B ≠ 0) : y.anyL B = [] := if_neg h
theorem YardD.any_some {y : YardD} {B : Bool} (h : y.anyE B = 0) : y.anyL B = y.allS := if_pos h
set_option maxHeartbeats 8000000 in
theorem any_own (y : YardD) (hb : y.nb < 1000000) (hc : y.nc < 1000000) (B : Bool) : CallW Try.prog 82 [yardV y, .sb B] ⟨[], 0⟩ (fun v st' => ∃ q, v = .tup [slG q 6 (y.anyL B).length, iV (y.anyE B)] ∧ lsQ (y.anyL B) q st') := by
  obtain ⟨O, hO⟩ : ∃ O : Ar, O = std := ⟨_, rfl⟩
  have e1 := checkYard_ok y hb hc
  have hA1 : y.check ≠ 0 → y.anyE B = y.check := fun h => if_pos h
  have hA2 : y.check = 0 → B = false → y.anyE B = 2 := fun h h2 => by unfold YardD.anyE; rw [if_neg (by simp [h]), if_pos h2]
  have hA3 : y.check = 0 → B = true → y.allS = [] → y.anyE B = 10 := fun h h2 h3 => by unfold YardD.anyE; rw [if_neg (by simp [h]), if_neg (by simp [h2]), if_pos h3]
  have hA4 : y.check = 0 → B = true → y.allS ≠ [] → y.anyE B = 0 := fun h h2 h3 => by unfold YardD.anyE; rw [if_neg (by simp [h]), if_neg (by simp [h2]), if_neg h3]
  have hcol := fun h : y.check = 0 => collect_ok y (y.fit_of_check h).1
  have hnum := fun h : y.check = 0 => numbers_ok y (by have := (y.fit_of_check h).1.nb; omega)
  obtain ⟨C, hC⟩ : ∃ C, y.check = C := ⟨_, rfl⟩
  rw [hC] at e1 hA1 hA2 hA3 hA4 hcol hnum
  have hnone : ∀ e, y.anyE B = e → e ≠ 0 → ∀ st' : St, 0 < st'.n → ∃ q, AV.tup [nl3, iV e] = .tup [slG q 6 (y.anyL B).length, iV (y.anyE B)] ∧ lsQ (y.anyL B) q st' := fun e h1 h2 st' h3 => ⟨0, by rw [YardD.any_none (by rw [h1]; exact h2), h1]; rfl, by rw [YardD.any_none (by rw [h1]; exact h2)]; exact lsQ_nil h3⟩
  refine callW_of_body tok Try.func82 rfl ?_
  refine SW.seqRun tok hO (by cbv <;> rfl) (by trivial) ?_
  refine SW.seq ?_
  refine SW.seqRun tok hO (by cbv <;> rfl) (by trivial) ?_
  refine OpsW.callP e1 (by cbv <;> rfl) ?_
  refine OpsW.run tok hO (by cbv <;> rfl) (by trivial) ?_
  refine SW.seqRun tok hO (by cbv <;> rfl) (by trivial) ?_
  refine SW.condS (by cbv <;> rfl) (fun h1 => ?_) (fun h1 => SW.skip ?_)
  · have hC0 : C ≠ 0 := by subst hO; simpa [std] using h1
    refine SW.seqRun tok hO (by cbv <;> rfl) (by trivial) ?_
    exact SW.ret ⟨_, _, rfl, rfl, hnone C (hA1 hC0) hC0 _ (by show 0 < 1; omega)⟩
  have hC0 : C = 0 := by subst hO; simpa [std] using h1
  have hcol := hcol hC0
  have hnum := hnum hC0
  refine (show SW _ _ _ _ _ _ from ?_)
  refine SW.seq ?_
  refine SW.seqRun tok hO (by cbv <;> rfl) (by trivial) ?_
  refine SW.condS (by cbv <;> rfl) (fun h2 => ?_) (fun h2 => SW.skip ?_)
  · have hB : B = false := by subst hO; simpa [std] using h2
    refine SW.seqRun tok hO (by cbv <;> rfl) (by trivial) ?_
    exact SW.ret ⟨_, _, rfl, rfl, hnone 2 (hA2 hC0 hB) (by omega) _ (by show 0 < 1; omega)⟩
  have hB : B = true := by subst hO; simpa [std] using h2
  refine (show SW _ _ _ _ _ _ from ?_)
  obtain ⟨N, hN⟩ : ∃ N, y.nb = N := ⟨_, rfl⟩
  have hsch := sched99 y N false (fun j => (j : Int)) [(0, .cells none false (yardC y))] 1
  rw [hN] at hcol hnum
  obtain ⟨S, hS⟩ : ∃ S, y.allS = S := ⟨_, rfl⟩
  rw [hS] at hcol hA3 hA4
  refine SW.seqRunD tok mixed hO (by kernel_rfl) (by cbv <;> rfl) (by trivial) ?_
  refine AnyE.callP hnum (by cbv <;> rfl) (by cbv <;> rfl) ?_
  refine AnyE.run tok hO (by kernel_rfl) (by cbv <;> rfl) (by trivial) ?_
  refine AnyE.apply (c := .fn (.func 99) [] []) (args := [yardV y, .isl N 1 false natC]) (by cbv <;> rfl) (by cbv <;> rfl) ⟨en99, hsch⟩ fun r st' hk => ?_
  obtain ⟨rfl, rfl⟩ := hk
  refine AnyE.run tok hO (by kernel_rfl) (by cbv <;> rfl) (by trivial) ?_
  refine AnyE.apply (c := .fn (.func 104) [] []) (args := [.fn (.func 109) [] [.ptr 1 0, .ptr 2 0]]) (by cbv <;> rfl) (by cbv <;> rfl) ⟨en104, hcol⟩ fun r st' hk => ?_
  obtain ⟨q, rfl, hq⟩ := hk
  have hfin : S ≠ [] → AV.tup [slG q 6 S.length, iV 0] = .tup [slG q 6 (y.anyL B).length, iV (y.anyE B)] ∧ lsQ (y.anyL B) q st' := fun h => by
    have e := hA4 hC0 hB h
    rw [YardD.any_some e, e, hS]; exact ⟨rfl, hq⟩
  cases S with
  | nil =>
    refine AnyE.run tok hO (by kernel_rfl) (by cbv <;> rfl) (by trivial) ?_
    refine SW.seq ?_
    refine SW.seqRun tok hO (by cbv <;> rfl) (by trivial) ?_
    refine SW.condS (by cbv <;> rfl) (fun h2 => ?_) (fun h2 => ?_)
    rotate_left
    · exfalso; subst hO; simp [std] at h2
    refine SW.seqRun tok hO (by cbv <;> rfl) (by trivial) ?_
    exact SW.ret ⟨_, _, rfl, rfl, hnone 10 (hA3 hC0 hB rfl) (by omega) _ (by have := hq.1; omega)⟩
  | cons f S =>
    have hfin := hfin (by simp)
    obtain ⟨L, hL⟩ : ∃ L, S.length = L := ⟨_, rfl⟩
    rw [show (f :: S).length = L + 1 by rw [List.length_cons, hL]] at hfin ⊢
    refine AnyE.run tok hO (by kernel_rfl) (by cbv <;> rfl) (by trivial) ?_
    refine SW.seq ?_
    refine SW.seqRun tok hO (by cbv <;> rfl) (by trivial) ?_
    refine SW.condS (by cbv <;> rfl) (fun h2 => ?_) (fun h2 => SW.skip ?_)
    · exfalso
      have : ((L + 1 : Nat) : Int) = 0 := by subst hO; simpa [std] using h2
      omega
    refine (show SW _ _ _ _ _ _ from ?_)
    refine SW.seqRun tok hO (by cbv <;> rfl) (by trivial) ?_
    exact SW.ret ⟨_, _, rfl, rfl, q, hfin⟩
end Go.Fz
set_option linter.unusedVariables false
namespace Go.Fz
open Go.Proofs
set_option maxRecDepth 100000
theorem RenV.tup {ρ : Nat → Nat} {n : Nat} {l2 l1 : List AV} (h : RenVs ρ n l2 l1) : RenV ρ n (.tup l2) (.tup l1) := fun φ _ hv => by
  obtain ⟨us, rfl, h1⟩ := hv.tup_inv
  exact .tup (h.ok h1)
theorem slG_ren {σ : Nat → Nat} {n q sz L : Nat} (h : σ n = q) : RenV σ (n + 1) (slG n sz L) (slG q sz L) := by
  cases L with
  | zero => exact RenV.closed Below.lit
  | succ L => rw [← h]; exact RenV.sl (Nat.lt_succ_self n)
theorem objG_get {q sz L : Nat} {g : Nat → Nat → AV} {id : Nat} {o : AObj} (h : Hp.get (objG q sz g L) id = some o) : id = q ∧ o = .cells none false (flatG sz g L) := by
  have := objG_mem (Hp.mem_of_get h)
  cases this; exact ⟨rfl, rfl⟩
def lsV6 (S : List (Nat → Int)) : AV := .isl S.length 6 false (gS S)
theorem lsV6_below (S : List (Nat → Int)) : Below 0 (lsV6 S) := Below.isl fun i k _ _ => gS_below S i k
theorem CallW.list6 {g : FuncId} {args : List AV} {S : List (Nat → Int)} {e : Int} (hargs : ∀ a ∈ args, Below 0 a) (h : CallW Try.prog g args ⟨[], 0⟩ (fun v st' => ∃ q, v = .tup [slG q 6 S.length, iV e] ∧ lsQ S q st')) (n : Nat) {R : Hp} (hR : ∀ id o, R.get id = some o → o.own = true) :
    CallW Try.prog g args ⟨R, n⟩ (fun v st' => v = .tup [slG n 6 S.length, iV e] ∧ st' = ⟨R ++ objG n 6 (gS S) S.length, n + 1⟩) := by
  refine CallW.ownAt (r := fun n => .tup [slG n 6 S.length, iV e]) (bl := fun n => objG n 6 (gS S) S.length) hR (fun id o ho => by rw [(objG_get ho).2]; rfl) ?_
  refine CallW.own (r := fun n => .tup [slG n 6 S.length, iV e]) (bl := fun n => objG n 6 (gS S) S.length) hargs h (fun n id o ho => by obtain ⟨h1, rfl⟩ := objG_get ho; exact ⟨h1, rfl, rfl⟩) (fun v st2' ⟨q, hv, hq, hg⟩ => ⟨q, fun σ n hσ => ?_, fun n o ho => ?_⟩) n
  · rw [hv]
    exact RenV.tup (.cons (slG_ren hσ) (.cons (RenV.closed Below.lit) .nil))
  · obtain ⟨_, rfl⟩ := objG_get ho
    cases hL : S.length with
    | zero => rw [hL] at ho; cases ho
    | succ L =>
      have h1 : Hp.get (objG q 6 (gS S) S.length) q = some (.cells none false (flatG 6 (gS S) S.length)) := by rw [hL]; simp [objG, Hp.get]
      refine ⟨hq, _, hg _ h1, fun σ _ => .base ?_⟩
      rw [hL]
      exact .cells (RenVs.closed (flatG_below (gS_below S) _))
theorem frz_list6 {S : List (Nat → Int)} : Eqv (frz (objG 0 6 (gS S) S.length) (fun _ => true) 3 (slG 0 6 S.length)) (lsV6 S) := by
  unfold lsV6
  cases hL : S.length with
  | zero => exact Eqv.nil
  | succ L =>
    show Eqv (frz _ _ 3 (.sl 0 0 (L + 1) 6 false)) _
    rw [frz_slE (fm := none) (G := flatG 6 (gS S) (L + 1)) rfl rfl (by rw [flatG_length]; omega)]
    exact Eqv.isl rfl fun i' k hi' hk => Eqv.of (frz_flat hi' hk rfl)
theorem Pure.list6 {g : FuncId} {args : List AV} {S : List (Nat → Int)} {e : Int} (hent : Enters Try.prog g) (ha : AllB 0 args) (h : CallW Try.prog g args ⟨[], 0⟩ (fun v st' => ∃ q, v = .tup [slG q 6 S.length, iV e] ∧ lsQ S q st')) : Pure Try.prog g args (.tup [lsV6 S, iV e]) :=
  pure_of_call (m := 4) hent ha (Below.tup (AllB.ok ⟨lsV6_below S, Below.lit, trivial⟩)) ((CallW.list6 ha.ok h 0 (R := []) (fun _ _ h => nomatch h)).mono fun v st' ⟨hv, hs⟩ => by
    rw [hv, hs]
    exact Eqv.tup (.cons frz_list6 (.cons (Eqv.refl _) .nil)))
theorem any_at (y : YardD) (hb : y.nb < 1000000) (hc : y.nc < 1000000) (B : Bool) (n : Nat) {R : Hp} (hR : ∀ id o, R.get id = some o → o.own = true) :
    CallW Try.prog 82 [yardV y, .sb B] ⟨R, n⟩ (fun v st' => v = .tup [slG n 6 (y.anyL B).length, iV (y.anyE B)] ∧ st' = ⟨R ++ objG n 6 (gS (y.anyL B)) (y.anyL B).length, n + 1⟩) :=
  CallW.list6 (args := [yardV y, .sb B]) (AllB.ok ⟨yardV_below y, Below.sb, trivial⟩) (any_own y hb hc B) n hR
theorem any_ok (y : YardD) (hb : y.nb < 1000000) (hc : y.nc < 1000000) (B : Bool) : Pure Try.prog 82 [yardV y, .sb B] (.tup [lsV6 (y.anyL B), iV (y.anyE B)]) :=
  Pure.list6 en82 ⟨yardV_below y, Below.sb, trivial⟩ (any_own y hb hc B)
end Go.Fz
set_option linter.unusedVariables false
namespace Go.Fz
open Go.Proofs
section
variable {P : Program} {T : Ti}
theorem sets_ok {φ : Fi} {st : St} {w : World} {id off : Nat} {cs as0 : List AV} {vs : List Value} (hr : Rel φ st w) (ho : st.h.get id = some (.cells none false cs)) (hv : VRL φ as0 vs) (c3 : as0.all AV.one = true) (c2 : off + as0.length ≤ cs.length) :
    ∃ w', (storeCells ⟨(φ.f id).b, (φ.f id).o + off, none⟩ vs).run P w = .ok () w' ∧ Rel φ ⟨st.h.set id (.cells none false (setsL cs off as0)), st.n⟩ w' ∧ Fr φ st w φ ⟨st.h.set id (.cells none false (setsL cs off as0)), st.n⟩ w' := by
  obtain ⟨hcell, hblk⟩ := hr.obj id _ ho
  obtain ⟨c, ty, hb, hcn, hcl⟩ := hblk rfl
  have hvl := hv.length
  have hrun := run_storeCells_at P (φ.f id).b ((φ.f id).o + off) ty vs 0 c w hb (by simp only [Nat.add_zero]; omega) (hv.one c3)
  simp only [Nat.add_zero] at hrun
  refine ⟨w.setRow (φ.f id).b (c.toList.take ((φ.f id).o + off) ++ vs ++ c.toList.drop ((φ.f id).o + off + vs.length)).toArray, hrun, ?_⟩
  refine hr.turn (id := id) (o := .cells none false cs) (o' := .cells none false (setsL cs off as0)) ho rfl rfl rfl rfl rfl rfl (setRow_size _ _ _) (fun k hk => setRow_other w _ k _ hk) ?_
  have hcl' : c.toList.length = (φ.f id).n := by simp [hcn]
  refine ⟨fun k a ha => ?_, fun _ => ⟨_, ty, setRow_heap w _ c _ ty (0, 0) hb, ?_, by rw [setsL_length]; exact hcl⟩⟩
  · have hnew : ∀ j, (w.setRow (φ.f id).b (c.toList.take ((φ.f id).o + off) ++ vs ++ c.toList.drop ((φ.f id).o + off + vs.length)).toArray).cell? ⟨(φ.f id).b, j, none⟩ =
        if (φ.f id).o + off ≤ j ∧ j < (φ.f id).o + off + vs.length then vs[j - ((φ.f id).o + off)]? else c[j]? := fun j => by
      unfold World.cell?
      simp only [setRow_heap w _ c _ ty (0, 0) hb]
      rw [← Array.getElem?_toList (xs := c), ← splice_get c.toList vs ((φ.f id).o + off) j (by rw [hcl']; omega)]
      simp
    rw [setsL_get _ _ _ _ c2] at ha
    rw [hnew]
    split at ha
    · rename_i hk
      rw [if_pos (by omega)]
      obtain ⟨u, hu, hru⟩ := hv.get _ _ ha
      exact ⟨u, by rw [show (φ.f id).o + k - ((φ.f id).o + off) = k - off from by omega]; exact hu, hru⟩
    · rename_i hk
      rw [if_neg (by omega)]
      obtain ⟨u, hu, hru⟩ := hcell k a ha
      refine ⟨u, ?_, hru⟩
      unfold World.cell? at hu
      simpa [hb] using hu
  · simp only [List.size_toArray, List.length_append, List.length_take, List.length_drop, hcl']
    omega
def aggB (T : Ti) (t n : Nat) : Bool := match T t with
  | some i => aggD i.desc && Nat.beq i.size n
  | none => false
theorem load_aggr {t n : Nat} {h : Hp} {id off : Nat} {fm : Option Nat} {ro : Bool} {cs : List AV} (hs : aggB T t n = true) (hg : h.get id = some (.cells fm ro cs)) (hl : off + n ≤ cs.length) : loadA T h t (.ptr id off) = some (.agg ((cs.drop off).take n)) := by
  unfold aggB at hs
  split at hs
  · rename_i i hi
    rw [Bool.and_eq_true] at hs
    have hz := Nat.eq_of_beq_eq_true hs.2
    subst hz
    simp only [loadA, ptrOf, cellsAt, hg, partA, hi]
    rw [if_pos hs.1, if_pos hl]
  · cases hs
theorem flatG_elem {sz n i : Nat} {g : Nat → Nat → AV} (hi : i < n) : ((flatG sz g n).drop (i * sz)).take sz = cellsFrom (g i) 0 sz := by
  apply List.ext_getElem?
  intro k
  rw [cellsFrom_get, List.getElem?_take, List.getElem?_drop]
  by_cases hk : k < sz
  · rw [if_pos hk, if_pos hk, flatG_get sz g n i k hi hk, Nat.zero_add]
  · rw [if_neg hk, if_neg hk]
theorem flatG_room {sz n i : Nat} (g : Nat → Nat → AV) (hi : i < n) : i * sz + sz ≤ (flatG sz g n).length := by
  rw [flatG_length]
  have : (i + 1) * sz ≤ n * sz := Nat.mul_le_mul_right _ hi
  rw [Nat.succ_mul] at this
  exact this
theorem OpsW.stoG (hT : TOk P T) {rd : Option Nat} {ops : Array Oper} {K : Fm → St → Prop} {f : Fm} {st : St} {j : Nat} {l : List Nat} {t id off n : Nat} {v : AV} {cs G : List AV}
    (ha : stoAt ops j f = some (t, .ptr id off, v)) (hb : sizeB T t n = true) (hv : v.cells = cs) (hlen : cs.length = n) (h0 : 0 < n) (hone : cs.all AV.one = true) (hnm : cs.map AV.norm = cs) (hx : st.h.get id = some (.cells none false G)) (hl : off + n ≤ G.length)
    (h : ∀ G', G' = setsL G off cs → OpsW P rd ops l K (putAt ops j f undA) ⟨st.h.set id (.cells none false G'), st.n⟩) : OpsW P rd ops (j :: l) K f st := by
  have h := h _ rfl
  unfold stoAt at ha
  split at ha
  · cases ha
  · rename_i o ho
    split at ha
    · rename_i hw
      split at ha
      · rename_i t' p x hop
        simp only [Option.some.injEq, Prod.mk.injEq] at ha
        obtain ⟨rfl, e2, e3⟩ := ha
        have hput : ∀ v, putAt ops j f v = f.put o.dst v := fun v => by simp [putAt, ho]
        rw [hput] at h
        have hst : storeO T st (Operand.av f.ts) o = some ⟨st.h.set id (.cells none false (setsL G off cs)), st.n⟩ := by
          unfold sizeB at hb
          split at hb
          · rename_i ti hti
            have hsz := Nat.eq_of_beq_eq_true hb
            simp only [storeO, hop, storeA, e2, e3, ptrOf, hti, hx, hv, hsz, hlen, hnm]
            rw [if_pos ⟨trivial, hl, hone, h0⟩]
          · cases hb
        exact OpsW.store hT ho hw hst h
      · cases ha
    · cases ha
theorem zerosA_length (j : TI) (n : Nat) : (zerosA j n).length = n := by simp [zerosA]
def clrAt (ops : Array Oper) (j : Nat) (f : Fm) : Option (TypeId × AV) := match ops[j]? with
  | none => none
  | some o => match wantA ops f.ts o with
    | some true => match o.op with
      | .call c => match c.callee, c.args.toList, c.argTypes.toList with
        | .builtin .clear, [s], [t] => some (t, Operand.av f.ts s)
        | _, _, _ => none
      | _ => none
    | _ => none
def zeroB (T : Ti) (t sz : Nat) : Bool := match T t with
  | some i => match i.desc with
    | .slice e => match T e with
      | some j => Nat.beq j.zero.length sz && j.zero.all Value.oneCell'
      | none => false
    | _ => false
  | none => false
theorem zerosA_one {j : TI} (h0 : 0 < j.zero.length) (h : j.zero.all Value.oneCell' = true) (n : Nat) : (zerosA j n).all AV.one = true := by
  refine List.all_eq_true.2 fun x hx => ?_
  obtain ⟨k, _, rfl⟩ := List.mem_map.1 hx
  have hk : k % j.zero.length < j.zero.length := Nat.mod_lt _ h0
  show (j.zero[k % j.zero.length]!).oneCell' = true
  rw [getElem!_pos j.zero _ hk]
  exact List.all_eq_true.1 h _ (List.getElem_mem hk)
theorem OpsW.clearG (hT : TOk P T) {rd : Option Nat} {ops : Array Oper} {K : Fm → St → Prop} {f : Fm} {st : St} {j : Nat} {l : List Nat} {t id off n sz : Nat} {ex : Bool} {G : List AV}
    (ha : clrAt ops j f = some (t, .sl id off (n + 1) sz ex)) (hb : zeroB T t sz = true) (hx : st.h.get id = some (.cells none false G)) (h0 : 0 < sz) (hl : off + (n + 1) * sz ≤ G.length)
    (h : ∀ G' : List AV, G'.length = G.length → (∀ k, k < off → G'[k]? = G[k]?) → OpsW P rd ops l K (putAt ops j f undA) ⟨st.h.set id (.cells none false G'), st.n⟩) : OpsW P rd ops (j :: l) K f st := by
  unfold clrAt at ha
  split at ha
  · cases ha
  · rename_i o ho
    split at ha
    · rename_i hw
      split at ha
      · rename_i c hop
        split at ha
        · rename_i s t' hc hargs htys
          simp only [Option.some.injEq, Prod.mk.injEq] at ha
          obtain ⟨rfl, hxv⟩ := ha
          have ha' : c.args = #[s] := by cases hq : c.args; simp_all
          have ht' : c.argTypes = #[t'] := by cases hq : c.argTypes; simp_all
          unfold zeroB at hb
          split at hb
          · rename_i ti hti
            split at hb
            · rename_i e hd
              split at hb
              · rename_i tj hj
                rw [Bool.and_eq_true] at hb
                have hsz := Nat.eq_of_beq_eq_true hb.1
                have c3 := zerosA_one (by omega) hb.2 ((n + 1) * tj.zero.length)
                have c2 : off + (zerosA tj ((n + 1) * tj.zero.length)).length ≤ G.length := by rw [zerosA_length, hsz]; exact hl
                have hput : ∀ v, putAt ops j f v = f.put o.dst v := fun v => by simp [putAt, ho]
                have h := h (setsL G off (zerosA tj ((n + 1) * tj.zero.length))) (setsL_length _ _ _) (fun k hk => by rw [setsL_get _ _ _ _ c2, if_neg (by omega)])
                rw [hput] at h
                refine OpsW.value ho hw (fun c hc => by rw [hop] at hc; cases hc) (fun φ w a h2 h3 => ?_) h
                have hdd := opR_of h3.ts s
                rw [hxv] at hdd
                obtain ⟨cap', hv', _, _, _, _⟩ := hdd.sl_inv
                obtain ⟨z, hz, hzc⟩ := run_zero hT hj w
                have hzs := zeros_ok φ hzc ((n + 1) * tj.zero.length)
                obtain ⟨w', h4, h5, h6⟩ := sets_ok (P := P) h2 hx hzs c3 c2
                refine ⟨φ, w', .tuple #[], .inl ?_, .lit _, h5, Ext.refl _, h6⟩
                have hzl : z.cells.size = tj.zero.length := by rw [← hzc]; simp
                have hzz : (Builtin.zeroCells z.cells (n + 1)).toList = (List.range ((n + 1) * tj.zero.length)).map fun k => z.cells[k % z.cells.size]! := by
                  simp [Builtin.zeroCells, hzl]
                have hcp : (Builtin.clear_ #[t'] o.type #[a.eval s]).run P w = .ok (.tuple #[]) w' := by
                  rw [hv']
                  simp only [Builtin.clear_, List.getElem?_toArray, List.getElem?_cons_zero, Sem.run_bind, run_und hT hti, hd, Result.andThen, Sem.run_pure, hz, hzz, h4]
                simp [execOp, hop, resolve, hc, ha', ht', invoke, builtin, hcp, Result.andThen]
              · cases hb
            · cases hb
          · cases hb
        · cases ha
      · cases ha
    · cases ha
theorem OpsW.cutL (hT : TOk P T) {rd : Option Nat} {ops : Array Oper} {K : Fm → St → Prop} {f : Fm} {st : St} {i : Nat} {l : List Nat} {t id off len sz u : Nat} {ex : Bool} {b : Int}
    (hx : sliAt ops i f = some (t, .sl id off len sz ex, some (.lit (.int .i64 b)), none)) (hu : b = Int.ofNat u) (hb : sliceB T t sz = true) (hle : u < len)
    (h : ∀ q n, q = off + u * sz → n = len - u → OpsW P rd ops l K (putAt ops i f (.sl id q n sz (ex && len == len))) st) : OpsW P rd ops (i :: l) K f st := by
  obtain ⟨ti, tj, e, h1, h2, h3, h4, h5, h6, h7, h8⟩ := sliceB_ok hb
  subst hu
  have h := h _ _ rfl rfl
  unfold sliAt at hx
  split at hx
  · cases hx
  · rename_i o ho
    split at hx
    · rename_i hw
      split at hx
      · rename_i t' x lo' hi' hop
        simp only [Option.some.injEq, Prod.mk.injEq] at hx
        obtain ⟨rfl, k2, k3, k4⟩ := hx
        have hput : ∀ v, putAt ops i f v = f.put o.dst v := fun v => by simp [putAt, ho]
        rw [hput] at h
        have h0 : natOr len (none : Option AV) = some len := rfl
        refine OpsW.light hT ho hw ?_ h
        simp only [evG, hop, sliceA, k2, h1, h2, h3, h4, k3, k4, h0, natOr_lo, if_true, Option.map_none]
        rw [if_pos ⟨Nat.le_of_lt hle, Nat.le_refl _, .inr hle⟩]
      · cases hx
    · cases hx
end
end Go.Fz
set_option linter.unusedVariables false
namespace Go.Fz
open Go.Proofs
set_option maxRecDepth 100000
def YardD.badB (y : YardD) (f : Nat → Int) : Bool := decide (0 < (y.wrN f y.nc).length)
set_option maxHeartbeats 4000000 in
theorem own90 (y : YardD) (f : Nat → Int) (hc : y.nc < 1000) (hcb : ∀ i, i < y.nc → 0 ≤ y.cb i ∧ y.cb i < 6) {st : St} {fm : Option Nat} {ro : Bool} (hg : st.h.get 0 = some (.cells fm ro (yardC y))) :
    CallW Try.prog 90 [.agg (arrC f), .ptr 0 0] st (fun v st' => v = .sb (y.badB f) ∧ st' = st) := by
  refine call_ro (m := 3) (args2 := [.agg (arrC f), .ptr 0 0]) hg (yardC_below y) Below.sb (fun φ us h => ?_) ?_
  · cases h with
    | cons h1 t => cases t with
      | cons h2 t => cases t with
        | nil =>
          refine .cons ?_ (.cons ?_ .nil)
          · exact VR.mono (φ := ⟨φ.f, 0, φ.z⟩) (φ' := ⟨fun _ => φ.f 0, 1, φ.z⟩) ⟨Nat.zero_le _, fun id hid => absurd hid (Nat.not_lt_zero id), fun b c hb => hb⟩ ((Below.agg (arrC_below f)) _ _ h1)
          · cases h2
            exact .ptr (φ := ⟨fun _ => φ.f 0, 1, φ.z⟩) 0 0 (Nat.zero_lt_one)
  obtain ⟨O, hO⟩ : ∃ O : Ar, O = std := ⟨_, rfl⟩
  have hw := wrongIn_ok y f hc hcb
  have hq : y.badB f = decide (0 < (y.wrN f y.nc).length) := rfl
  generalize y.badB f = Q at hq ⊢
  unfold lsV at hw
  generalize (fun i => (((y.wrN f y.nc).getD i 0 : Nat) : Int)) = FL at hw
  generalize (y.wrN f y.nc).length = L at hw hq
  unfold intsV at hw
  refine callW_of_body tok Try.func90 rfl ?_
  unfold roS
  refine SW.seqRun tok hO (by cbv <;> rfl) (by trivial) ?_
  refine SW.seqRun tok hO (by cbv <;> rfl) (by trivial) ?_
  refine OpsW.callP hw (by cbv <;> rfl) ?_
  refine OpsW.run tok hO (by cbv <;> rfl) (by trivial) ?_
  refine SW.ret ⟨_, _, rfl, rfl, rfl, Eqv.sb ?_⟩
  rw [hq]
  subst hO
  simp [std]
def fstT (p : Nat → Bool) (n : Nat) : Int := match (List.range n).find? p with
  | some i => (i : Int)
  | none => -1
theorem fstT_hit {p : Nat → Bool} {n c : Nat} (hc : c < n) (hp : p c = true) (hb : ∀ j, j < c → p j = false) : fstT p n = c := by
  unfold fstT
  rw [List.find?_range_eq_some.2 ⟨hp, List.mem_range.2 hc, fun j hj => by rw [hb j hj]; rfl⟩]
theorem fstT_none {p : Nat → Bool} {n : Nat} (hb : ∀ j, j < n → p j = false) : fstT p n = -1 := by
  unfold fstT
  rw [List.find?_eq_none.2 fun j hj => by rw [hb j (List.mem_range.1 hj)]; simp]
theorem list6_load {S : List (Nat → Int)} {h : Hp} {id q c : Nat} {fm : Option Nat} {ro : Bool} (hg : h.get id = some (.cells fm ro (flatG 6 (gS S) S.length))) (hc : c < S.length) (hq : q = 0 + c * 6) : loadA T h 91 (.ptr id q) = some (.agg (arrC (S.getD c f0))) := by
  subst hq
  rw [load_aggr (n := 6) (by kernel_rfl) hg (by have := flatG_room (sz := 6) (gS S) hc; omega), Nat.zero_add, flatG_elem hc]
  rfl
set_option maxHeartbeats 4000000 in
theorem index98 (S : List (Nat → Int)) (st : St) (id : Nat) (ex : Bool) (g0 : FuncId) (he : Enters Try.prog g0) (first caps : List AV) (p : Nat → Bool) (hn : S.length < 2000000) {fm : Option Nat} {ro : Bool} (hg : st.h.get id = some (.cells fm ro (flatG 6 (gS S) S.length)))
    (hp : ∀ i, i < S.length → CallW Try.prog g0 (first ++ [.agg (arrC (S.getD i f0))] ++ caps) st (fun v st' => v = .sb (p i) ∧ st' = st)) :
    CallW Try.prog 98 [.sl id 0 S.length 6 ex, .fn (.func g0) first caps] st (fun v st' => v = iV (fstT p S.length) ∧ st' = st) := by
  obtain ⟨O, hO⟩ : ∃ O : Ar, O = std := ⟨_, rfl⟩
  have hld := fun (q c : Nat) (hc : c < S.length) (hq : q = 0 + c * 6) => list6_load hg hc hq
  obtain ⟨L, hL⟩ : ∃ L, S.length = L := ⟨_, rfl⟩
  rw [hL] at hp hn hld ⊢
  refine callW_of_body tok Try.func98 rfl ?_
  refine SW.seqRun tok hO (by cbv <;> rfl) (by trivial) ?_
  refine SW.seq ?_
  refine SW.seqRun tok hO (by cbv <;> rfl) (by trivial) ?_
  refine (SW.block (SW.loop (fun k f st' => ∃ (g : Nat → AV) (c : Nat), f = ⟨⟨19, g⟩, []⟩ ∧ AllP (fun p => g p.1 = p.2) [(0, .sl id 0 L 6 ex), (1, .fn (.func g0) first caps), (7, iV L), (8, iV c)] ∧ st' = st ∧ (∀ j, j < c → p j = false) ∧ c ≤ L ∧ k = L - c) (L - 0) ?_ ?_))
  · exact ⟨_, 0, rfl, ⟨rfl, rfl, rfl, rfl, trivial⟩, rfl, (fun j hj => absurd hj (Nat.not_lt_zero j)), Nat.zero_le _, rfl⟩
  · rintro k f st' ⟨g, c, rfl, ⟨g0', g1, g7, g8, _⟩, rfl, hall, hle, rfl⟩
    simp only at g0' g1 g7 g8
    rw [← updT_self g0', ← updT_self g1, ← updT_self g7, ← updT_self g8]
    refine SW.seqRun tok hO (by cbv <;> rfl) (by trivial) ?_
    refine SW.seq (SW.condS (by cbv <;> rfl) (fun h3 => SW.skip ?_) (fun h3 => SW.exit ?_))
    · have hlt : c < L := by subst hO; simpa [std] using h3
      refine SW.seq (SW.block ?_)
      refine SW.seqRun tok hO (by cbv <;> rfl) (by trivial) ?_
      have hc := hp c hlt
      obtain ⟨B, hB⟩ : ∃ B, p c = B := ⟨_, rfl⟩
      rw [hB] at hc
      have hld := fun q hq => hld q c hlt hq
      generalize S.getD c f0 = F at hc hld
      refine SW.seq (SW.runN tok hO 3 (by cbv <;> rfl) (by trivial) ?_)
      refine OpsW.idxSl tok (by cbv <;> rfl) (by kernel_rfl) hlt fun q hq => ?_
      refine OpsW.ldI tok (by cbv <;> rfl) (hld q hq) ?_
      refine OpsW.callS he hc (by cbv <;> rfl) fun r st'' hk => ?_
      obtain ⟨rfl, rfl⟩ := hk
      refine OpsW.run tok hO (by cbv <;> rfl) (by trivial) ?_
      refine SW.condS (by cbv <;> rfl) (fun h4 => ?_) (fun h4 => SW.skip ?_)
      · have hBt : B = true := by subst hO; simpa [std] using h4
        refine SW.seqRun tok hO (by cbv <;> rfl) (by trivial) ?_
        exact SW.ret ⟨_, _, rfl, rfl, by rw [fstT_hit hlt (hB.trans hBt) hall]; rfl, rfl⟩
      · have hBf : B = false := by subst hO; simpa [std] using h4
        refine SW.run tok hO (by cbv <;> rfl) (by trivial) ?_
        refine ⟨L - (c + 1), by omega, _, c + 1, rfl, ⟨rfl, rfl, rfl, inc_ok hO (by omega), trivial⟩, rfl, fun j hj => ?_, by omega, rfl⟩
        rcases Nat.lt_succ_iff_lt_or_eq.1 hj with hj | rfl
        · exact hall j hj
        · exact hB.trans hBf
    · have hge : L ≤ c := by subst hO; simpa [std] using h3
      refine SW.seqRun tok hO (by cbv <;> rfl) (by trivial) ?_
      exact SW.ret ⟨_, _, rfl, rfl, by rw [fstT_none fun j hj => hall j (by omega)]; rfl, rfl⟩
end Go.Fz
set_option linter.unusedVariables false
namespace Go.Fz
open Go.Proofs
set_option maxRecDepth 100000
theorem arrC_get (x : Nat → Int) {k : Nat} (hk : k < 6) : (arrC x)[k]? = some (iV (x k)) := by
  rcases (by omega : k = 0 ∨ k = 1 ∨ k = 2 ∨ k = 3 ∨ k = 4 ∨ k = 5) with rfl | rfl | rfl | rfl | rfl | rfl <;> rfl
theorem sets_flat {n i : Nat} {S : List (Nat → Int)} (x : Nat → Int) (hS : S.length = n) (hi : i < n) : setsL (flatG 6 (gS S) n) (i * 6) (arrC x) = flatG 6 (gS (S.set i x)) n := by
  have hr := flatG_room (sz := 6) (gS S) hi
  have hl6 : (arrC x).length = 6 := rfl
  apply List.ext_getElem?
  intro k
  rw [setsL_get _ _ _ _ (by rw [hl6]; exact hr), hl6]
  by_cases hk : k < n * 6
  · obtain ⟨a, b, hb, rfl⟩ : ∃ a b, b < 6 ∧ k = a * 6 + b := ⟨k / 6, k % 6, Nat.mod_lt _ (by omega), by omega⟩
    have ha : a < n := by omega
    rw [flatG_get 6 (gS S) n a b ha hb, flatG_get 6 (gS (S.set i x)) n a b ha hb]
    by_cases e : a = i
    · subst e
      rw [if_pos (by omega), show a * 6 + b - a * 6 = b by omega, arrC_get x hb]
      show some (iV (x b)) = some (iV (((S.set a x).getD a f0) b))
      rw [List.getD_eq_getElem?_getD, List.getElem?_set_self (by omega)]
      rfl
    · rw [if_neg (by omega)]
      show some (iV ((S.getD a f0) b)) = some (iV (((S.set i x).getD a f0) b))
      rw [List.getD_eq_getElem?_getD, List.getD_eq_getElem?_getD, List.getElem?_set_ne (Ne.symm e)]
  · rw [if_neg (by omega), List.getElem?_eq_none (by rw [flatG_length]; omega), List.getElem?_eq_none (by rw [flatG_length]; omega)]
def kpS (p : (Nat → Int) → Bool) (S : List (Nat → Int)) : List (Nat → Int) := S.filter fun f => !p f
theorem kp_take (p : (Nat → Int) → Bool) (S : List (Nat → Int)) {j : Nat} (hj : j < S.length) : kpS p (S.take (j + 1)) = kpS p (S.take j) ++ (if p (S.getD j f0) = true then [] else [S.getD j f0]) := by
  unfold kpS
  rw [List.take_add_one, List.filter_append, List.getD_eq_getElem?_getD, List.getElem?_eq_getElem hj]
  congr 1
  simp only [Option.toList_some, Option.getD_some]
  cases h : p S[j] <;> simp [h]
structure DelI (p : (Nat → Int) → Bool) (S : List (Nat → Int)) (x : List (Nat → Int) × Nat) : Prop where
  len : x.1.length = S.length
  le : x.2 ≤ S.length
  lt : (kpS p (S.take x.2)).length < x.2
  got : ∀ a, a < (kpS p (S.take x.2)).length → x.1.getD a f0 = (kpS p (S.take x.2)).getD a f0
  rest : ∀ a, x.2 ≤ a → a < S.length → x.1.getD a f0 = S.getD a f0
theorem getD_app_l {α : Type} {l m : List α} {d : α} {a : Nat} (h : a < l.length) : (l ++ m).getD a d = l.getD a d := by
  rw [List.getD_eq_getElem?_getD, List.getD_eq_getElem?_getD, List.getElem?_append_left h]
theorem getD_app_n {α : Type} {l : List α} {x d : α} : (l ++ [x]).getD l.length d = x := by
  simp [List.getD_eq_getElem?_getD]
theorem getD_set_ne {α : Type} {l : List α} {x d : α} {i a : Nat} (h : i ≠ a) : (l.set i x).getD a d = l.getD a d := by
  rw [List.getD_eq_getElem?_getD, List.getD_eq_getElem?_getD, List.getElem?_set_ne h]
theorem getD_set_eq {α : Type} {l : List α} {x d : α} {i : Nat} (h : i < l.length) : (l.set i x).getD i d = x := by
  rw [List.getD_eq_getElem?_getD, List.getElem?_set_self h]; rfl
theorem DelI.drop {p : (Nat → Int) → Bool} {S cur : List (Nat → Int)} {j : Nat} (h : DelI p S (cur, j)) (hj : j < S.length) (hp : p (S.getD j f0) = true) : DelI p S (cur, j + 1) := by
  have e := kp_take p S hj
  rw [if_pos hp, List.append_nil] at e
  obtain ⟨h1, h2, h3, h4, h5⟩ := h
  simp only at h1 h2 h3 h4 h5
  exact ⟨h1, hj, by show (kpS p (S.take (j + 1))).length < j + 1; rw [e]; omega, by show ∀ a, a < (kpS p (S.take (j + 1))).length → cur.getD a f0 = (kpS p (S.take (j + 1))).getD a f0; rw [e]; exact h4, fun a ha => h5 a (by have : j + 1 ≤ a := ha; omega)⟩
theorem DelI.keep {p : (Nat → Int) → Bool} {S cur : List (Nat → Int)} {j : Nat} (h : DelI p S (cur, j)) (hj : j < S.length) (hp : p (S.getD j f0) = false) : DelI p S (cur.set (kpS p (S.take j)).length (S.getD j f0), j + 1) ∧ (kpS p (S.take (j + 1))).length = (kpS p (S.take j)).length + 1 := by
  have e := kp_take p S hj
  rw [if_neg (by rw [hp]; simp)] at e
  obtain ⟨h1, h2, h3, h4, h5⟩ := h
  simp only at h1 h2 h3 h4 h5
  have hlen : (kpS p (S.take (j + 1))).length = (kpS p (S.take j)).length + 1 := by rw [e, List.length_append, List.length_singleton]
  refine ⟨⟨by show (cur.set _ _).length = _; rw [List.length_set]; exact h1, hj, by show (kpS p (S.take (j + 1))).length < j + 1; omega, ?_, fun a ha hl => ?_⟩, hlen⟩
  · show ∀ a, a < (kpS p (S.take (j + 1))).length → (cur.set _ _).getD a f0 = (kpS p (S.take (j + 1))).getD a f0
    intro a ha
    rw [hlen] at ha
    rw [e]
    by_cases e1 : a = (kpS p (S.take j)).length
    · rw [e1, getD_set_eq (by omega), getD_app_n]
    · rw [getD_set_ne (Ne.symm e1), getD_app_l (by omega)]
      exact h4 a (by omega)
  · have ha : j + 1 ≤ a := ha
    show (cur.set _ _).getD a f0 = _
    rw [getD_set_ne (by omega)]
    exact h5 a (by omega) hl
theorem DelI.start {p : (Nat → Int) → Bool} {S : List (Nat → Int)} {i : Nat} (hi : i < S.length) (hp : p (S.getD i f0) = true) (hb : ∀ j, j < i → p (S.getD j f0) = false) : DelI p S (S, i + 1) ∧ (kpS p (S.take (i + 1))).length = i := by
  have hall : kpS p (S.take i) = S.take i := List.filter_eq_self.2 fun f hf => by
    obtain ⟨j, hj, e⟩ := List.getElem_of_mem hf
    rw [List.length_take] at hj
    have := hb j (by omega)
    rw [List.getD_eq_getElem?_getD, List.getElem?_eq_getElem (by omega)] at this
    rw [← e, List.getElem_take]
    simpa using this
  have e := kp_take p S hi
  rw [if_pos hp, List.append_nil, hall] at e
  have hl : (S.take i).length = i := by rw [List.length_take]; omega
  refine ⟨⟨rfl, hi, by show (kpS p (S.take (i + 1))).length < i + 1; rw [e, hl]; omega, ?_, fun a _ _ => rfl⟩, by rw [e, hl]⟩
  show ∀ a, a < (kpS p (S.take (i + 1))).length → S.getD a f0 = (kpS p (S.take (i + 1))).getD a f0
  rw [e, hl]
  intro a ha
  rw [List.getD_eq_getElem?_getD, List.getD_eq_getElem?_getD, List.getElem?_take, if_pos ha]
theorem fstT_some {p : Nat → Bool} {n : Nat} (h : fstT p n ≠ -1) : ∃ i, i < n ∧ fstT p n = i ∧ p i = true ∧ ∀ j, j < i → p j = false := by
  unfold fstT at h ⊢
  cases hf : (List.range n).find? p with
  | none => rw [hf] at h; exact absurd rfl h
  | some i =>
    obtain ⟨h1, h2, h3⟩ := List.find?_range_eq_some.1 hf
    exact ⟨i, List.mem_range.1 h2, rfl, h1, fun j hj => by simpa using h3 j hj⟩
def dlQ (p : (Nat → Int) → Bool) (S : List (Nat → Int)) (v : AV) (st' : St) : Prop := v = .sl 1 0 (kpS p S).length 6 false ∧ ∃ G, st'.h.get 1 = some (.cells none false G) ∧ 1 < st'.n ∧ ∀ k, k < (kpS p S).length * 6 → G[k]? = (flatG 6 (gS (kpS p S)) (kpS p S).length)[k]?
theorem flat_same {S cur : List (Nat → Int)} {m n : Nat} (hmn : m ≤ n) (h : ∀ a, a < m → cur.getD a f0 = S.getD a f0) {k : Nat} (hk : k < m * 6) : (flatG 6 (gS cur) n)[k]? = (flatG 6 (gS S) m)[k]? := by
  obtain ⟨a, b, hb, rfl⟩ : ∃ a b, b < 6 ∧ k = a * 6 + b := ⟨k / 6, k % 6, Nat.mod_lt _ (by omega), by omega⟩
  have ha : a < m := by omega
  rw [flatG_get 6 (gS cur) n a b (by omega) hb, flatG_get 6 (gS S) m a b ha hb]
  show some (iV ((cur.getD a f0) b)) = some (iV ((S.getD a f0) b))
  rw [h a ha]
set_option maxHeartbeats 8000000 in
theorem delete89 (C : List AV) (hC : ∀ a ∈ C, Below 0 a) (S : List (Nat → Int)) (p : (Nat → Int) → Bool) (hn : S.length < 2000000) (h0 : 0 < S.length)
    (hp : ∀ f (st : St), st.h.get 0 = some (.cells none false C) → CallW Try.prog 90 [.agg (arrC f), .ptr 0 0] st (fun v st' => v = .sb (p f) ∧ st' = st)) :
    CallW Try.prog 89 [.sl 1 0 S.length 6 false, .fn (.func 90) [] [.ptr 0 0]] ⟨[(0, .cells none false C), (1, .cells none false (flatG 6 (gS S) S.length))], 2⟩ (dlQ p S) := by
  obtain ⟨O, hO⟩ : ∃ O : Ar, O = std := ⟨_, rfl⟩
  have hix := index98 S ⟨[(0, .cells none false C), (1, .cells none false (flatG 6 (gS S) S.length))], 2⟩ 1 false 90 en90 [] [.ptr 0 0] (fun i => p (S.getD i f0)) hn (fm := none) (ro := false) rfl (fun i _ => hp _ _ rfl)
  obtain ⟨L, hL⟩ : ∃ L, S.length = L := ⟨_, rfl⟩
  obtain ⟨I, hI⟩ : ∃ I, fstT (fun i => p (S.getD i f0)) S.length = I := ⟨_, rfl⟩
  rw [hI] at hix
  rw [hL] at hix hn h0 ⊢
  obtain ⟨G, hG⟩ : ∃ G, flatG 6 (gS S) L = G := ⟨_, rfl⟩
  rw [hG] at hix ⊢
  refine callW_of_body tok Try.func89 rfl ?_
  refine SW.seqRun tok hO (by cbv <;> rfl) (by trivial) ?_
  refine SW.seqRun tok hO (by cbv <;> rfl) (by trivial) ?_
  refine OpsW.callS en98 hix (by cbv <;> rfl) fun r st' hk => ?_
  obtain ⟨rfl, rfl⟩ := hk
  refine OpsW.run tok hO (by cbv <;> rfl) (by trivial) ?_
  refine SW.seq ?_
  refine SW.seqRun tok hO (by cbv <;> rfl) (by trivial) ?_
  refine SW.condS (by cbv <;> rfl) (fun h1 => ?_) (fun h1 => SW.skip ?_)
  · have hI1 : I = -1 := by subst hO; simpa [std] using h1
    have hno : ∀ j, j < L → p (S.getD j f0) = false := fun j hj => by
      cases hq : p (S.getD j f0) with
      | false => rfl
      | true =>
        exfalso
        unfold fstT at hI
        cases hf : (List.range S.length).find? (fun i => p (S.getD i f0)) with
        | none =>
          have := List.find?_eq_none.1 hf j (List.mem_range.2 (by omega))
          simp only [hq, not_true_eq_false] at this
        | some i => rw [hf] at hI; simp only at hI; omega
    have hk : kpS p S = S := List.filter_eq_self.2 fun f hf => by
      obtain ⟨j, hj, e⟩ := List.getElem_of_mem hf
      have := hno j (by omega)
      rw [List.getD_eq_getElem?_getD, List.getElem?_eq_getElem hj] at this
      rw [← e]; simpa using this
    refine SW.seqRun tok hO (by cbv <;> rfl) (by trivial) ?_
    refine SW.ret ⟨_, _, rfl, rfl, by rw [hk, hL]; rfl, G, rfl, by show 1 < 2; omega, fun k _ => by rw [hk, hL, hG]⟩
  have hI1 : I ≠ -1 := by subst hO; simpa [std] using h1
  rw [← hI] at hI1
  obtain ⟨i, hi, hIi, hpi, hbi⟩ := fstT_some hI1
  obtain rfl : I = i := hI.symm.trans hIi
  rw [hL] at hi
  obtain ⟨hd0, hk0⟩ := DelI.start (p := p) (S := S) (by omega) hpi hbi
  clear hix hI hI1 hIi h1
  refine (show SW _ _ _ _ _ _ from ?_)
  refine SW.seq ?_
  refine SW.seqRun tok hO (by cbv <;> rfl) (by trivial) ?_
  obtain ⟨fnv, hfn⟩ : ∃ x, x = AV.fn (.func 90) [] [.ptr 0 0] := ⟨_, rfl⟩
  have hfr : RenV (ren1 2 2) 2 fnv fnv := by rw [hfn]; exact RenV.fn .nil (.cons (RenV.ptr (by omega)) .nil)
  refine (SW.block (SW.loopR (fun x : List (Nat → Int) × Nat => ⟨⟨42, getT [(0, .sl 1 0 L 6 false), (1, fnv), (5, iV ((kpS p (S.take x.2)).length : Nat)), (6, iV (x.2 : Nat))]⟩, []⟩) (fun x => ⟨[(0, .cells none false C), (1, .cells none false (flatG 6 (gS x.1) L))] ++ [], 2⟩) (fun x => L - x.2) (DelI p S) (S, i + 1) hd0 (ren1 2 2) ?_ fun x hx => ?_))
  · refine WeakR.up rfl rfl (by simp) (Nat.le_refl _) (.inl rfl) (by show 2 ≤ 2; omega) ⟨RenV.sl (by omega), ?_, ?_, RenV.inc hO (by omega), trivial⟩ ⟨⟨by omega, _, rfl, .cells (RenVs.closed hC), .inr rfl⟩, ⟨by omega, _, rfl, .cells (RenVs.of_eq hG.symm (flatG_below (gS_below S) L)), .inr rfl⟩, trivial⟩ (fun p hp => by cases hp)
    · rw [hfn]; exact RenV.fn .nil (.cons (RenV.ptr (by omega)) .nil)
    · show RenV _ _ (iV ((kpS p (S.take (i + 1))).length : Nat)) _
      rw [hk0]; exact RenV.closed Below.lit
  obtain ⟨cur, j⟩ := x
  obtain ⟨K, hK⟩ : ∃ K, (kpS p (S.take j)).length = K := ⟨_, rfl⟩
  obtain ⟨d1, d2, d3, d4, d5⟩ := id hx
  simp only at d1 d2 d3 d4 d5
  rw [hK] at d3
  rw [hL] at d1 d2
  show SW _ _ _ _ ⟨⟨42, getT [(0, .sl 1 0 L 6 false), (1, fnv), (5, iV ((kpS p (S.take j)).length : Nat)), (6, iV (j : Nat))]⟩, []⟩ ⟨[(0, .cells none false C), (1, .cells none false (flatG 6 (gS cur) L))], 2⟩
  rw [hK]
  have hnx : ∀ (cur' : List (Nat → Int)) (K' : Nat), DelI p S (cur', j + 1) → (kpS p (S.take (j + 1))).length = K' → j < L → ∀ (f' : Fm) (st' : St) (ρ : Nat → Nat), WeakR 2 ρ f' st' ⟨⟨42, getT [(0, .sl 1 0 L 6 false), (1, fnv), (5, iV (K' : Nat)), (6, iV ((j + 1 : Nat) : Int))]⟩, []⟩ ⟨[(0, .cells none false C), (1, .cells none false (flatG 6 (gS cur') L))] ++ [], 2⟩ →
      ∃ x' : List (Nat → Int) × Nat, L - x'.2 < L - j ∧ DelI p S x' ∧ ∃ ρ, WeakR 2 ρ f' st' ⟨⟨42, getT [(0, .sl 1 0 L 6 false), (1, fnv), (5, iV ((kpS p (S.take x'.2)).length : Nat)), (6, iV (x'.2 : Nat))]⟩, []⟩ ⟨[(0, .cells none false C), (1, .cells none false (flatG 6 (gS x'.1) L))] ++ [], 2⟩ :=
    fun cur' K' h1 h2 hj f' st' ρ h => ⟨(cur', j + 1), by show L - (j + 1) < L - j; omega, h1, ρ, by show WeakR 2 ρ f' st' ⟨⟨42, getT [(0, .sl 1 0 L 6 false), (1, fnv), (5, iV ((kpS p (S.take (j + 1))).length : Nat)), (6, iV ((j + 1 : Nat) : Int))]⟩, []⟩ _; rw [h2]; exact h⟩
  have hsets := fun (x : Nat → Int) (h : K < L) => sets_flat (i := K) x d1 h
  have hld := fun (h : Hp) (hg : h.get 1 = some (.cells none false (flatG 6 (gS cur) L))) (q : Nat) (hj : j < L) (hq : q = 0 + j * 6) => list6_load (S := cur) (c := j) (q := q) (h := h) (id := 1) (fm := none) (ro := false) (by rw [d1]; exact hg) (by omega) hq
  have hgl : (flatG 6 (gS cur) L).length = L * 6 := flatG_length 6 _ L
  obtain ⟨Gc, hGc⟩ : ∃ G, flatG 6 (gS cur) L = G := ⟨_, rfl⟩
  rw [hGc] at hsets hld hgl ⊢
  refine SW.seq ?_
  refine SW.seqRun tok hO (by cbv <;> rfl) (by trivial) ?_
  refine SW.condS (by cbv <;> rfl) (fun h => SW.skip ?_) (fun h => SW.exit ?_)
  · have hjL : j < L := by
      have : (j : Int) < (L : Int) := by subst hO; simpa [std] using h
      omega
    have hcj := d5 j (Nat.le_refl _) (by omega)
    obtain ⟨x, hxx⟩ : ∃ x, S.getD j f0 = x := ⟨_, rfl⟩
    rw [hxx] at hcj
    rw [hcj] at hld
    have hkeep := hx.keep (by omega : j < S.length)
    have hdrop := hx.drop (by omega : j < S.length)
    rw [hxx] at hkeep hdrop
    rw [hK] at hkeep
    obtain ⟨B, hB⟩ : ∃ B, p x = B := ⟨_, rfl⟩
    rw [hB] at hkeep hdrop
    have hpx := hp x
    rw [hB] at hpx
    subst hfn
    refine SW.seq (SW.block ?_)
    refine SW.seq (SW.runN tok hO 2 (by cbv <;> rfl) (by trivial) ?_)
    refine OpsW.idxSl tok (by cbv <;> rfl) (by kernel_rfl) hjL fun q hq => ?_
    refine OpsW.ldI tok (by cbv <;> rfl) (hld _ rfl q hjL hq) ?_
    refine OpsW.run tok hO (by cbv <;> rfl) (by trivial) ?_
    refine SW.seqRun tok hO (by cbv <;> rfl) (by trivial) ?_
    refine OpsW.callS en90 (hpx _ rfl) (by cbv <;> rfl) fun r st' hk => ?_
    obtain ⟨rfl, rfl⟩ := hk
    refine OpsW.run tok hO (by cbv <;> rfl) (by trivial) ?_
    refine SW.condS (by cbv <;> rfl) (fun h2 => ?_) (fun h2 => SW.skip ?_)
    · have hBf : B = false := by subst hO; simpa [std] using h2
      obtain ⟨hd, hkl⟩ := hkeep hBf
      have hroom := flatG_room (sz := 6) (n := L) (gS cur) (i := K) (by omega)
      rw [hGc] at hroom
      refine SW.seq (SW.runN tok hO 3 (by cbv <;> rfl) (by trivial) ?_)
      refine OpsW.idxSl tok (by cbv <;> rfl) (by kernel_rfl) (by omega) fun q hq => ?_
      refine OpsW.stoG (n := 6) (cs := arrC x) (G := Gc) tok (by cbv <;> rfl) (by kernel_rfl) rfl rfl (by omega) rfl rfl rfl (by omega) fun G' hG' => ?_
      refine OpsW.run tok hO (by cbv <;> rfl) (by trivial) ?_
      refine SW.run tok hO (by cbv <;> rfl) (by trivial) ?_
      refine SW.run tok hO (by cbv <;> rfl) (by trivial) ?_
      refine hnx _ (K + 1) hd (by rw [hkl]) hjL _ _ (ren1 2 2) ?_
      have hG2 : G' = flatG 6 (gS (cur.set K x)) L := by rw [hG', hq, Nat.zero_add]; exact hsets x (by omega)
      refine WeakR.up rfl rfl (by simp) (Nat.le_refl _) (.inl rfl) (by omega) ⟨RenV.sl (by omega), hfr, RenV.inc hO (by omega), RenV.inc hO (by omega), trivial⟩ ⟨⟨by omega, _, rfl, .cells (RenVs.closed hC), .inr rfl⟩, ⟨by omega, _, rfl, .cells (RenVs.of_eq hG2 (flatG_below (gS_below _) L)), .inr rfl⟩, trivial⟩ (fun p hp => by cases hp)
    · have hBt : B = true := by subst hO; simpa [std] using h2
      refine (show SW _ _ _ _ _ _ from ?_)
      refine SW.run tok hO (by cbv <;> rfl) (by trivial) ?_
      have hd := hdrop hBt
      have hkl : (kpS p (S.take (j + 1))).length = K := by
        have e := kp_take p S (show j < S.length by omega)
        rw [hxx, if_pos (hB.trans hBt), List.append_nil] at e
        rw [e]; exact hK
      refine hnx _ K hd hkl hjL _ _ (ren1 2 2) ?_
      refine WeakR.up rfl rfl (by simp) (Nat.le_refl _) (.inl rfl) (by omega) ⟨RenV.sl (by omega), hfr, RenV.closed Below.lit, RenV.inc hO (by omega), trivial⟩ ⟨⟨by omega, _, rfl, .cells (RenVs.closed hC), .inr rfl⟩, ⟨by omega, _, rfl, .cells (RenVs.of_eq hGc.symm (flatG_below (gS_below _) L)), .inr rfl⟩, trivial⟩ (fun p hp => by cases hp)
  · have hjL : j = L := by
      have : (L : Int) ≤ (j : Int) := by subst hO; simpa [std] using h
      omega
    have hKS : kpS p (S.take j) = kpS p S := by rw [List.take_of_length_le (by omega)]
    rw [hKS] at hK d4
    obtain ⟨m, hm⟩ : ∃ m, L - K = m + 1 := ⟨L - K - 1, by omega⟩
    refine SW.seq (SW.runN tok hO 2 (by cbv <;> rfl) (by trivial) ?_)
    refine OpsW.cutL (u := K) tok (by cbv <;> rfl) rfl (by kernel_rfl) (by omega) fun q n hq hnn => ?_
    rw [hm] at hnn
    subst hnn
    refine OpsW.clearG (sz := 6) tok (by cbv <;> rfl) (by kernel_rfl) rfl (by omega) (by rw [hgl]; omega) fun G' hl' hg' => ?_
    refine OpsW.run tok hO (by cbv <;> rfl) (by trivial) ?_
    refine SW.seq (SW.runN tok hO 2 (by cbv <;> rfl) (by trivial) ?_)
    refine OpsW.cutU (u := K) tok (by cbv <;> rfl) rfl (by kernel_rfl) (by omega) ?_
    refine OpsW.run tok hO (by cbv <;> rfl) (by trivial) ?_
    refine SW.ret ⟨_, _, rfl, rfl, by rw [hK]; rfl, G', rfl, by show 1 < 2; omega, fun k hk => ?_⟩
    rw [hK] at hk ⊢
    rw [hg' k (by omega), ← hGc]
    exact flat_same (by omega) (fun a ha => d4 a (by omega)) hk
end Go.Fz
