/- Own work of the verifier of watercress: FzD3, FzG5, FzG6, FzG7, FzD4, FzD5. -/
import Derived.Test.YtpefamheopplnaaMl19
import Derived.Test.YtpefamheopplnaaMl18
set_option linter.unusedVariables false
set_option linter.unusedSimpArgs false
namespace Go.Fz
open Go.Proofs
set_option maxRecDepth 100000
set_option maxHeartbeats 8000000 in
theorem en_round1 (g : FuncId) (p q u : Int) (hof : Pure Try.prog g [.agg [iV p, iV q]] (iV u)) (ME : List (AV × AV × Nat)) (cl : Nat) (S : List Nat) (m : Nat) (hm : m < 100000) (fl : Nat → Int) (G : List AV) (hG : G = flatG 1 (intC fl) (m + 1)) :
    YieldW Try.prog 6 [.agg [iV p, iV q]] ⟨(9, .cells none false [iV p, iV q]) :: (7, .iter 0 cl S cl) :: enH g ME cl (.sl 8 0 (m + 1) 1 false) ++ [(8, .cells none false G)], 10⟩
      (fun v st' => v = .lit (.bool true) ∧ ∃ o8, st' = ⟨(12, .cells (some 8) false (G ++ [iV u])) :: (11, .cells none false [iV u]) :: (10, .cells none false [iV p, iV q]) :: (9, .cells none false [iV p, iV q]) :: (7, .iter 0 cl S cl) :: enH g ME cl (.sl 12 0 (m + 1 + 1) 1 false) ++ [(8, o8)], 13⟩) := by
  obtain ⟨O, hO⟩ : ∃ O : Ar, O = std := ⟨_, rfl⟩
  refine YieldW.of_round (r := enR) rfl rfl ?_
  refine SW.run tok hO (by cbv <;> rfl) (by trivial) ?_
  refine ⟨enR, rfl, rfl, SW.block ?_⟩
  obtain ⟨RB, hRB⟩ : ∃ r, r = ({ enR with state := .busy } : ALoop) := ⟨_, rfl⟩
  rw [← hRB]
  refine SW.runD tok mixed hO (by rfl) (by cbv <;> rfl) (by trivial) ?_
  refine AnyE.callP hof (by cbv <;> rfl) (by cbv <;> rfl) ?_
  refine AnyE.run tok hO (by rfl) (by cbv <;> rfl) (by trivial) ?_
  refine AnyE.effK tok hO (by cbv <;> rfl) (by cbv <;> rfl) (by trivial) ?_ ?_
  · exact (by repeat (first | exact trivial | refine And.intro (by first | exact lv_of hO (by cbv <;> rfl) (by trivial) | (cbv <;> rfl)) ?_))
  refine AnyE.run tok hO (by rfl) (by cbv <;> rfl) (by trivial) ?_
  refine AnyE.appOne (g := intC fl) (len := m + 1) tok (by cbv <;> rfl) (by cbv <;> rfl) (by rfl) (by rfl) hG (by kernel_rfl) (by rfl) (by rfl) (by omega) fun G' hG' => ?_
  refine AnyE.run tok hO (by rfl) (by cbv <;> rfl) (by trivial) ?_
  refine AnyE.eff tok hO (by cbv <;> rfl) (by cbv <;> rfl) (by trivial) ?_
  refine AnyE.done (by rfl) ?_
  rw [← hG] at hG'
  subst hG'
  subst hRB
  exact ⟨_, rfl, rfl, _, rfl⟩
def vsL (val : PK → Int) (x : List (PK × Nat)) (i : Nat) : Int := (x.map fun p => val p.1).getD i 0
theorem vsL_snoc (val : PK → Int) (x : List (PK × Nat)) (p : PK × Nat) : flatG 1 (intC (vsL val x)) x.length ++ [iV (val p.1)] = flatG 1 (intC (vsL val (x ++ [p]))) (x.length + 1) := by
  have h1 : flatG 1 (intC (vsL val (x ++ [p]))) x.length = flatG 1 (intC (vsL val x)) x.length := flatG_congr fun i k hi => by
    show iV (vsL val (x ++ [p]) i) = iV (vsL val x i)
    unfold vsL
    rw [List.map_append, List.getD_eq_getElem?_getD, List.getElem?_append_left (by simpa using hi), ← List.getD_eq_getElem?_getD]
  have h2 : vsL val (x ++ [p]) x.length = val p.1 := by unfold vsL; simp
  show _ = flatG 1 (intC (vsL val (x ++ [p]))) x.length ++ [iV (vsL val (x ++ [p]) x.length)]
  rw [h1, h2]
theorem enR_ren (m : Nat) : RenO (ren1 8 m) 9 (.loop enR) (.loop enR) :=
  .loop rfl rfl rfl rfl rfl rfl (by show 5 < 9; omega) rfl (RenV.getT (l := enL) ⟨RenV.ptr (by omega), RenV.ptr (by omega), RenV.ptr (by omega), RenV.fn .nil (.cons (RenV.ptr (by omega)) .nil), trivial⟩)
set_option maxHeartbeats 16000000 in
theorem keys99 (g : FuncId) (val : PK → Int) (E : List (PK × Nat)) (cl : Nat) (hb : BornG E cl) (hE : E.length < 100000) (hof : ∀ p ∈ E, Pure Try.prog g [pkV p.1] (iV (val p.1))) (K : AV → St → Prop)
    (hK : ∀ (x : List (PK × Nat)) (it : AObj), it.fam = none → x.length ≤ E.length → (∀ p ∈ x, p ∈ E) → (∀ p ∈ E, p ∈ x) → K (.tup []) ⟨(7, it) :: enH g (mapE pkV E) cl (slG 8 1 x.length) ++ objG 8 1 (intC (vsL val x)) x.length, 9⟩) :
    CallW Try.prog 99 [.yld 6, .ptr 1 0] ⟨enH g (mapE pkV E) cl nl3, 7⟩ K := by
  obtain ⟨O, hO⟩ : ∃ O : Ar, O = std := ⟨_, rfl⟩
  have hes : ∀ x ∈ mapE pkV E, ∃ p ∈ E, x = (pkV p.1, .lit (.bool true), p.2) := fun x hx => by
    obtain ⟨p, hp, rfl⟩ := List.mem_map.1 hx
    exact ⟨p, hp, rfl⟩
  have hborn : ((mapE pkV E).all (fun x => Nat.blt x.2.2 cl) && Nat.ble cl cl) = true := by
    rw [Bool.and_eq_true]
    refine ⟨List.all_eq_true.2 fun x hx => ?_, by rw [Nat.ble_eq]; exact Nat.le_refl _⟩
    obtain ⟨p, hp, rfl⟩ := hes x hx
    show Nat.ble _ _ = true
    rw [Nat.ble_eq]
    exact hb.1 p hp
  have hmap : (mapE pkV E).map (fun x => x.2.2) = E.map (·.2) := by simp [mapE, List.map_map, Function.comp_def]
  have hborn2 : (Nat.beq cl cl && bornsOk (mapE pkV E)) = true := by
    rw [Nat.beq_refl, Bool.true_and]
    unfold bornsOk
    rw [hmap]
    exact decide_eq_true hb.2
  have hclosed : ∀ x ∈ mapE pkV E, Below 0 x.1 ∧ Below 0 x.2.1 := fun x hx => by
    obtain ⟨p, _, rfl⟩ := hes x hx
    exact ⟨pkV_below _, Below.lit⟩
  have hlenE : (mapE pkV E).length = E.length := by simp [mapE]
  have hmemE : ∀ p ∈ E, (pkV p.1, AV.lit (.bool true), p.2) ∈ mapE pkV E := fun p hp => List.mem_map.2 ⟨p, hp, rfl⟩
  obtain ⟨ME, hME⟩ : ∃ m, mapE pkV E = m := ⟨_, rfl⟩
  rw [hME] at hes hborn hborn2 hmap hclosed hlenE hmemE hK ⊢
  refine callW_of_body tok Try.func99 rfl ?_
  refine SW.seq (SW.runN tok hO 1 (by cbv <;> rfl) (by trivial) ?_)
  refine OpsW.range tok (kt := 121) (by cbv <;> rfl) (by kernel_rfl) (by rfl) ?_
  refine OpsW.nil ?_
  refine (SW.block (SW.loopR (fun _ : List (PK × Nat) => ⟨⟨14, getT [(0, .yld 6), (1, .ptr 1 0), (5, .ptr 7 0)]⟩, []⟩) (fun x => ⟨(7, .iter 0 cl (x.map (·.2)) cl) :: enH g ME cl (slG 8 1 x.length) ++ objG 8 1 (intC (vsL val x)) x.length, 9⟩)
    (fun x => (ME.filter fun y => !((x.map (·.2)).contains y.2.2)).length) (fun x => (∀ p ∈ x, p ∈ E) ∧ (ME.filter fun y => !((x.map (·.2)).contains y.2.2)).length + x.length ≤ E.length) [] ⟨(fun _ h => nomatch h), by have := List.length_filter_le (fun y : AV × AV × Nat => !((([] : List (PK × Nat)).map (·.2)).contains y.2.2)) ME; rw [List.length_nil]; omega⟩ (ren1 8 8) ?_ fun x hx => ?_))
  · exact WeakR.up rfl rfl (by simp) (Nat.le_refl _) (.inl rfl) (by show 8 ≤ 9; omega) ⟨RenV.yld (by omega), RenV.ptr (by omega), RenV.ptr (by omega), trivial⟩
      ⟨⟨by omega, _, rfl, .iter (by omega), .inr rfl⟩, ⟨by omega, _, rfl, enR_ren 8, .inr rfl⟩, ⟨by omega, _, rfl, .dfr, .inr rfl⟩, ⟨by omega, _, rfl, .cells (.cons (RenV.closed Below.lit) .nil), .inr rfl⟩, ⟨by omega, _, rfl, .cells (.cons (RenV.closed Below.lit) (.cons (RenV.closed Below.lit) .nil)), .inr rfl⟩,
        ⟨by omega, _, rfl, .cells (.cons (RenV.closed (Below.fn (fun _ h => nomatch h) (fun _ h => nomatch h))) .nil), .inr rfl⟩, ⟨by omega, _, rfl, .cells (.cons (RenV.mp (by omega)) .nil), .inr rfl⟩, ⟨by omega, _, rfl, .map hclosed, .inr rfl⟩, trivial⟩ (fun p hp => by cases hp)
  obtain ⟨hx, hmeas⟩ := hx
  have hxl : x.length ≤ E.length := by omega
  obtain ⟨S, hS⟩ : ∃ s, x.map (·.2) = s := ⟨_, rfl⟩
  have hend : (ME.filter fun y => !(S.contains y.2.2)) = [] → ∀ p ∈ E, p ∈ x := fun hend p hp => by
    have hin : p.2 ∈ S := by
      have := List.filter_eq_nil_iff.1 hend _ (hmemE p hp)
      simpa using this
    rw [← hS] at hin
    obtain ⟨q, hq, hqp⟩ := List.mem_map.1 hin
    have h5 : q ∈ E.filter (fun y => Nat.beq y.2 p.2) := List.mem_filter.2 ⟨hx q hq, by show Nat.beq q.2 p.2 = true; rw [hqp]; exact Nat.beq_refl _⟩
    rw [filter_one' (g := fun y : PK × Nat => y.2) hb.2 hp, List.mem_singleton] at h5
    rw [← h5]; exact hq
  have hnext : ∀ p ∈ E, S.contains p.2 = false → (ME.filter fun y => !(((x ++ [p]).map (·.2)).contains y.2.2)).length < (ME.filter fun y => !((x.map (·.2)).contains y.2.2)).length := fun p hp hn => by
    refine filter_lt (p := (pkV p.1, AV.lit (.bool true), p.2)) (fun q h => ?_) (hmemE p hp) ?_ ?_
    · simp at h ⊢; exact h.1
    · show (!(x.map (·.2)).contains p.2) = true
      rw [hS, hn]; rfl
    · show (!((x ++ [p]).map (·.2)).contains p.2) = false
      simp
  have hinv : ∀ p ∈ E, S.contains p.2 = false → (∀ q ∈ x ++ [p], q ∈ E) ∧ (ME.filter fun y => !(((x ++ [p]).map (·.2)).contains y.2.2)).length + (x ++ [p]).length ≤ E.length := fun p hp hn => by
    refine ⟨fun q hq => ?_, ?_⟩
    · rcases List.mem_append.1 hq with hq | hq
      · exact hx q hq
      · rw [List.mem_singleton.1 hq]; exact hp
    · have := hnext p hp hn
      rw [List.length_append, List.length_singleton]; omega
  have hSx : ∀ p : PK × Nat, (x ++ [p]).map (·.2) = S ++ [p.2] := fun p => by rw [List.map_append, hS]; rfl
  have hxp : ∀ p : PK × Nat, (x ++ [p]).length = x.length + 1 := fun p => by rw [List.length_append, List.length_singleton]
  have hsn := vsL_snoc val x
  rw [hS]
  cases hn : x.length with
  | zero =>
    obtain rfl : x = [] := List.length_eq_zero_iff.1 hn
    have hS0 : S = [] := hS.symm
    refine SW.seq (SW.runN tok hO 0 (by cbv <;> rfl) (by trivial) ?_)
    refine OpsW.nextL (a := .ptr 7 0) (by cbv <;> rfl) (by rfl) (by rfl) hborn (fun he => ?_) (fun y hy hny => ?_)
    · refine OpsW.run tok hO (by cbv <;> rfl) (by trivial) ?_
      refine SW.seq (SW.cond (t := false) (by cbv <;> rfl) (SW.exit ?_))
      exact ⟨_, _, rfl, rfl, hK [] _ rfl hxl hx (hend he)⟩
    · obtain ⟨p, hp, rfl⟩ := hes y hy
      have hfil : ME.filter (fun x => Nat.beq x.2.2 p.2) = [(pkV p.1, .lit (.bool true), p.2)] := filter_one' (g := fun x : AV × AV × Nat => x.2.2) (x := (pkV p.1, .lit (.bool true), p.2)) (by rw [hmap]; exact hb.2) hy
      have hof' := hof p hp
      have hnx := hnext p hp hny
      rw [hS] at hnx
      have hin := hinv p hp hny
      have hsn := hsn p
      have hSx := hSx p
      have hxp := hxp p
      obtain ⟨⟨⟨a, b⟩, hab⟩, born⟩ := p
      obtain ⟨u, hu⟩ : ∃ u, val ⟨(a, b), hab⟩ = u := ⟨_, rfl⟩
      simp only [hu] at hof' hsn
      obtain ⟨S2, hS2⟩ : ∃ s, S ++ [born] = s := ⟨_, rfl⟩
      show OpsW _ _ _ _ _ _ ⟨(7, .iter 0 cl (S ++ [born]) cl) :: enH g ME cl nl3, 9⟩
      rw [hS2]
      refine OpsW.run tok hO (by cbv <;> rfl) (by trivial) ?_
      refine SW.seq (SW.cond (t := true) (by cbv <;> rfl) (SW.skip ?_))
      refine SW.block ?_
      refine SW.seq (SW.runN tok hO 0 (by cbv <;> rfl) (by trivial) ?_)
      have hlast : S2.getLast? = some born := by rw [← hS2]; simp
      refine OpsW.entryL (a := .ptr 7 0) (by cbv <;> rfl) (by rfl) (by rfl) hlast hborn2 hfil ?_
      refine OpsW.run tok hO (by cbv <;> rfl) (by trivial) ?_
      refine SW.seq (SW.runN tok hO 2 (by cbv <;> rfl) (by trivial) ?_)
      refine OpsW.apply (c := .yld 6) (args := [.agg [iV a, iV b]]) (by cbv <;> rfl) (en_round0 g a b u hof' ME cl (.iter 0 cl S2 cl)) fun v st' hv => ?_
      obtain ⟨rfl, rfl⟩ := hv
      refine OpsW.run tok hO (by cbv <;> rfl) (by trivial) ?_
      refine SW.cond (t := false) (by cbv <;> rfl) (SW.skip ?_)
      refine ⟨[(⟨(a, b), hab⟩, born)], hnx, hin, ren1 8 12, ?_⟩
      have e1 : ([(⟨(a, b), hab⟩, born)] : List (PK × Nat)).map (·.2) = S2 := by rw [← hS2, hS0]; rfl
      rw [e1]
      refine WeakR.up rfl rfl (by simp) (Nat.le_refl _) (.inr (by omega)) (by show 8 ≤ 9; omega) ⟨RenV.yld (by omega), RenV.ptr (by omega), RenV.ptr (by omega), trivial⟩
        ⟨⟨by omega, _, rfl, .iter (by omega), .inr rfl⟩, ⟨by omega, _, rfl, enR_ren 12, .inr rfl⟩, ⟨by omega, _, rfl, .dfr, .inr rfl⟩, ⟨by omega, _, rfl, .cells (.cons (RenV.sl (by omega)) .nil), .inr rfl⟩, ⟨by omega, _, rfl, .cells (.cons (RenV.closed Below.lit) (.cons (RenV.closed Below.lit) .nil)), .inr rfl⟩,
          ⟨by omega, _, rfl, .cells (.cons (RenV.closed (Below.fn (fun _ h => nomatch h) (fun _ h => nomatch h))) .nil), .inr rfl⟩, ⟨by omega, _, rfl, .cells (.cons (RenV.mp (by omega)) .nil), .inr rfl⟩, ⟨by omega, _, rfl, .map hclosed, .inr rfl⟩, trivial⟩ (fun p hp => ?_)
      obtain rfl := objG_mem hp
      exact ⟨by omega, _, rfl, .cells (RenVs.of_eq hsn (flatG_below (fun _ _ => Below.lit) _)), .inl rfl⟩
  | succ m =>
    obtain ⟨G, hG⟩ : ∃ G, G = flatG 1 (intC (vsL val x)) (m + 1) := ⟨_, rfl⟩
    show SW _ _ _ _ _ ⟨(7, .iter 0 cl S cl) :: enH g ME cl (.sl 8 0 (m + 1) 1 false) ++ [(8, .cells none false (flatG 1 (intC (vsL val x)) (m + 1)))], 9⟩
    rw [← hG]
    refine SW.seq (SW.runN tok hO 0 (by cbv <;> rfl) (by trivial) ?_)
    refine OpsW.nextL (a := .ptr 7 0) (by cbv <;> rfl) (by rfl) (by rfl) hborn (fun he => ?_) (fun y hy hny => ?_)
    · refine OpsW.run tok hO (by cbv <;> rfl) (by trivial) ?_
      refine SW.seq (SW.cond (t := false) (by cbv <;> rfl) (SW.exit ?_))
      have hk := hK x (.iter 0 cl S cl) rfl hxl hx (hend he)
      rw [hn] at hk
      rw [hG]
      exact ⟨_, _, rfl, rfl, hk⟩
    · obtain ⟨p, hp, rfl⟩ := hes y hy
      have hfil : ME.filter (fun x => Nat.beq x.2.2 p.2) = [(pkV p.1, .lit (.bool true), p.2)] := filter_one' (g := fun x : AV × AV × Nat => x.2.2) (x := (pkV p.1, .lit (.bool true), p.2)) (by rw [hmap]; exact hb.2) hy
      have hof' := hof p hp
      have hnx := hnext p hp hny
      rw [hS] at hnx
      have hin := hinv p hp hny
      have hsn := hsn p
      have hSx := hSx p
      have hxp := hxp p
      rw [hn] at hsn hxp
      rw [← hG] at hsn
      obtain ⟨⟨⟨a, b⟩, hab⟩, born⟩ := p
      obtain ⟨u, hu⟩ : ∃ u, val ⟨(a, b), hab⟩ = u := ⟨_, rfl⟩
      simp only [hu] at hof' hsn
      obtain ⟨S2, hS2⟩ : ∃ s, S ++ [born] = s := ⟨_, rfl⟩
      show OpsW _ _ _ _ _ _ ⟨(7, .iter 0 cl (S ++ [born]) cl) :: enH g ME cl (.sl 8 0 (m + 1) 1 false) ++ [(8, .cells none false G)], 9⟩
      rw [hS2]
      refine OpsW.run tok hO (by cbv <;> rfl) (by trivial) ?_
      refine SW.seq (SW.cond (t := true) (by cbv <;> rfl) (SW.skip ?_))
      refine SW.block ?_
      refine SW.seq (SW.runN tok hO 0 (by cbv <;> rfl) (by trivial) ?_)
      have hlast : S2.getLast? = some born := by rw [← hS2]; simp
      refine OpsW.entryL (a := .ptr 7 0) (by cbv <;> rfl) (by rfl) (by rfl) hlast hborn2 hfil ?_
      refine OpsW.run tok hO (by cbv <;> rfl) (by trivial) ?_
      refine SW.seq (SW.runN tok hO 2 (by cbv <;> rfl) (by trivial) ?_)
      refine OpsW.apply (c := .yld 6) (args := [.agg [iV a, iV b]]) (by cbv <;> rfl) (en_round1 g a b u hof' ME cl S2 m (by omega) (vsL val x) G hG) fun v st' hv => ?_
      obtain ⟨rfl, o8, rfl⟩ := hv
      obtain ⟨G2, hG2⟩ : ∃ G2, G ++ [iV u] = G2 := ⟨_, rfl⟩
      rw [hG2]
      refine OpsW.run tok hO (by cbv <;> rfl) (by trivial) ?_
      refine SW.cond (t := false) (by cbv <;> rfl) (SW.skip ?_)
      refine ⟨x ++ [(⟨(a, b), hab⟩, born)], hnx, hin, ren1 8 12, ?_⟩
      rw [hSx, hS2, hxp]
      refine WeakR.up rfl rfl (by simp) (Nat.le_refl _) (.inr (by omega)) (by show 8 ≤ 9; omega) ⟨RenV.yld (by omega), RenV.ptr (by omega), RenV.ptr (by omega), trivial⟩
        ⟨⟨by omega, _, rfl, .iter (by omega), .inr rfl⟩, ⟨by omega, _, rfl, enR_ren 12, .inr rfl⟩, ⟨by omega, _, rfl, .dfr, .inr rfl⟩, ⟨by omega, _, rfl, .cells (.cons (RenV.sl (by omega)) .nil), .inr rfl⟩, ⟨by omega, _, rfl, .cells (.cons (RenV.closed Below.lit) (.cons (RenV.closed Below.lit) .nil)), .inr rfl⟩,
          ⟨by omega, _, rfl, .cells (.cons (RenV.closed (Below.fn (fun _ h => nomatch h) (fun _ h => nomatch h))) .nil), .inr rfl⟩, ⟨by omega, _, rfl, .cells (.cons (RenV.mp (by omega)) .nil), .inr rfl⟩, ⟨by omega, _, rfl, .map hclosed, .inr rfl⟩, trivial⟩ (fun p hp => ?_)
      obtain rfl := objG_mem hp
      exact ⟨by omega, _, rfl, .cells (RenVs.of_eq (hG2.symm.trans hsn) (flatG_below (fun _ _ => Below.lit) _)), .inl rfl⟩
end Go.Fz
namespace Go.Fz
open Go.Proofs
set_option maxRecDepth 100000
noncomputable def findRF : Code → Option (Code × Code)
  | .rangeFunc _ _ a b => some (a, b)
  | .seq a b => match findRF a with
    | some r => some r
    | none => findRF b
  | .scope a => findRF a
  | .block _ a => findRF a
  | _ => none
noncomputable def leParts : Code × Code := match findRF (bodyF Try.f31) with
  | some p => p
  | none => (.skip, .skip)
def leL : List (Nat × AV) := [(5, .ptr 2 0), (6, .ptr 3 0), (19, .fn (.func 101) [] [.ptr 4 0])]
noncomputable def leR : ALoop := { state := .ready, pending := none, tmps := ⟨33, getT leL⟩, params := #[20], assign := leParts.1, body := leParts.2, dfid := 5 }
noncomputable def leRx : ALoop := { leR with state := .done, pending := some (.exit 0) }
def leH (d : DayD) (XO : AV) (ME : List (AV × AV × Nat)) (cl : Nat) (r : ALoop) (xs : AV) : Hp :=
  [(6, .loop r), (5, .dfr), (4, .cells none false [iV (d.nc : Int)]), (3, .cells none false [xs]), (2, .cells none false [iV d.hand, iV d.flat, womsV d, lotsV d, cntsV d, XO, .mp 1]), (1, .map ME cl), (0, .cells none false (dayC d))]
def leaveQ (E : List (Mk × Nat)) (l : List Nat) : Bool := E.any fun p => withinL p.1 l.length (fun i => ((l.getD i 0 : Nat) : Int))
section
variable (d : DayD) (XO : AV) (hX : Below 0 XO) (E : List (Mk × Nat)) (cl : Nat) (hb : Born E cl)
theorem leH_renO {ρ : Nat → Nat} {n : Nat} {r : ALoop} {xs : AV} (hX : Below 0 XO) (hxs : Below 0 xs) (hclosed : ∀ x ∈ mapE mkV E, Below 0 x.1 ∧ Below 0 x.2.1) (hr : RenO ρ n (.loop r) (.loop r)) (h1 : ρ 1 = 1) (hn : 1 < n) :
    ∀ p ∈ leH d XO (mapE mkV E) cl r xs, RenO ρ n p.2 p.2 := fun p hp => by
  have hmp : RenV ρ n (.mp 1) (.mp 1) := by
    have := RenV.mp (ρ := ρ) (n := n) (j := 1) hn
    rwa [h1] at this
  unfold leH at hp
  simp only [List.mem_cons, List.not_mem_nil, or_false] at hp
  rcases hp with rfl | rfl | rfl | rfl | rfl | rfl | rfl
  · exact hr
  · exact .dfr
  · exact .cells (.cons (RenV.closed Below.lit) .nil)
  · exact .cells (.cons (RenV.closed hxs) .nil)
  · exact .cells (.cons (RenV.closed Below.lit) (.cons (RenV.closed Below.lit) (.cons (RenV.closed (womsV_below d)) (.cons (RenV.closed (lotsV_below d)) (.cons (RenV.closed (cntsV_below d)) (.cons (RenV.closed hX) (.cons hmp .nil)))))))
  · exact .map hclosed
  · exact .cells (RenVs.closed (dayC_below d))
theorem leR_ren {ρ : Nat → Nat} {n : Nat} {s : LoopState} {c : Option Code} (h2 : ρ 2 = 2) (h3 : ρ 3 = 3) (h4 : ρ 4 = 4) (h5 : ρ 5 = 5) (hn : 5 < n) : RenO ρ n (.loop { leR with state := s, pending := c }) (.loop { leR with state := s, pending := c }) := by
  have hp : ∀ j, j < n → ρ j = j → RenV ρ n (.ptr j 0) (.ptr j 0) := fun j hj e => by
    have := RenV.ptr (ρ := ρ) (n := n) (j := j) (off := 0) hj
    rwa [e] at this
  exact .loop rfl rfl rfl rfl rfl (by show 5 = ρ 5; rw [h5]) (by show 5 < n; exact hn) rfl (RenV.getT (l := leL) ⟨hp 2 (by omega) h2, hp 3 (by omega) h3, RenV.fn .nil (.cons (hp 4 (by omega) h4) .nil), trivial⟩)
include hX hb in
set_option maxHeartbeats 16000000 in
theorem le_round0 (N : Nat) (fl : Nat → Int) (LQ : Bool) (hl : N < 1000) (hQ1 : (∀ p ∈ E, withinL p.1 N fl = false) → LQ = false) (hQ2 : ∀ p ∈ E, withinL p.1 N fl = true → LQ = true) :
    YieldW Try.prog 6 [intsV N false fl] ⟨leH d XO (mapE mkV E) cl leR nl3, 7⟩ (fun v st' => ∃ R n', st' = ⟨R, n'⟩ ∧ 7 ≤ n' ∧
      ((v = .lit (.bool true) ∧ LQ = false ∧ ∀ id o, Hp.get (leH d XO (mapE mkV E) cl leR nl3) id = some o → R.get id = some o) ∨
       (v = .lit (.bool false) ∧ LQ = true ∧ ∀ id o, Hp.get (leH d XO (mapE mkV E) cl leRx (intsV N false fl)) id = some o → R.get id = some o))) := by
  obtain ⟨O, hO⟩ : ∃ O : Ar, O = std := ⟨_, rfl⟩
  have hes : ∀ x ∈ mapE mkV E, ∃ p ∈ E, x = (mkV p.1, .lit (.bool true), p.2) := fun x hx => by
    obtain ⟨p, hp, rfl⟩ := List.mem_map.1 hx
    exact ⟨p, hp, rfl⟩
  have hborn : ((mapE mkV E).all (fun x => Nat.blt x.2.2 cl) && Nat.ble cl cl) = true := by
    rw [Bool.and_eq_true]
    refine ⟨List.all_eq_true.2 fun x hx => ?_, by rw [Nat.ble_eq]; exact Nat.le_refl _⟩
    obtain ⟨p, hp, rfl⟩ := hes x hx
    show Nat.ble _ _ = true
    rw [Nat.ble_eq]
    exact hb.1 p hp
  have hmap : (mapE mkV E).map (fun x => x.2.2) = E.map (·.2) := by simp [mapE, List.map_map, Function.comp_def]
  have hborn2 : (Nat.beq cl cl && bornsOk (mapE mkV E)) = true := by
    rw [Nat.beq_refl, Bool.true_and]
    unfold bornsOk
    rw [hmap]
    exact decide_eq_true hb.2
  have hclosed := mapE_closed E
  have hmemE : ∀ p ∈ E, (mkV p.1, AV.lit (.bool true), p.2) ∈ mapE mkV E := fun p hp => List.mem_map.2 ⟨p, hp, rfl⟩
  have hwith : ∀ b : Mk, Pure Try.prog 78 [mkV b, intsV N false fl] (.sb (withinL b N fl)) := fun b => within58_ok b N false fl hl
  have hlb : Below 0 (intsV N false fl) := intsV_below _ _ _
  have hren := fun (ρ : Nat → Nat) (n : Nat) (r : ALoop) => leH_renO (ρ := ρ) (n := n) (r := r) (xs := nl3) d XO E cl hX Below.lit hclosed
  obtain ⟨ME, hME⟩ : ∃ m, mapE mkV E = m := ⟨_, rfl⟩
  rw [hME] at hes hborn hborn2 hmap hclosed hmemE hren ⊢
  refine YieldW.of_round (r := leR) rfl rfl ?_
  refine SW.run tok hO (by cbv <;> rfl) (by trivial) ?_
  refine ⟨leR, rfl, rfl, SW.block ?_⟩
  obtain ⟨RB, hRB⟩ : ∃ r, r = ({ leR with state := .busy } : ALoop) := ⟨_, rfl⟩
  have hRBr : ∀ n, 5 < n → RenO (tabR []) n (.loop RB) (.loop RB) := fun n hn => by rw [hRB]; exact leR_ren (s := .busy) (c := none) rfl rfl rfl rfl hn
  rw [← hRB]
  refine SW.seq (SW.runN tok hO 2 (by cbv <;> rfl) (by trivial) ?_)
  refine OpsW.range tok (kt := 145) (by cbv <;> rfl) (by kernel_rfl) (by rfl) ?_
  refine OpsW.nil ?_
  have hobj : ∀ (st1 : St) (it1 it2 : AObj), it1.fam = none → RenO (tabR []) 8 it2 it1 → (∀ p ∈ ((7, it1) :: leH d XO ME cl RB nl3 : Hp), st1.h.get p.1 = some p.2) → AllP (fun p => p.1 < 8 ∧ ∃ o1, st1.h.get (tabR [] p.1) = some o1 ∧ RenO (tabR []) 8 p.2 o1 ∧ o1.fam = none) ((7, it2) :: leH d XO ME cl RB nl3) := fun st1 it1 it2 hf hr hg => by
    have h2 := hren (tabR []) 8 RB (hRBr 8 (by omega)) rfl (by omega)
    refine ⟨⟨by show 7 < 8; omega, it1, hg _ List.mem_cons_self, hr, hf⟩, ?_⟩
    have h3 : ∀ p ∈ leH d XO ME cl RB nl3, p.1 < 8 ∧ ∃ o1, st1.h.get (tabR [] p.1) = some o1 ∧ RenO (tabR []) 8 p.2 o1 ∧ o1.fam = none := fun p hp => by
      refine ⟨?_, p.2, hg p (List.mem_cons_of_mem _ hp), h2 p hp, ?_⟩
      all_goals
        unfold leH at hp
        simp only [List.mem_cons, List.not_mem_nil, or_false] at hp
        rcases hp with rfl | rfl | rfl | rfl | rfl | rfl | rfl
      all_goals first | rfl | (show _ < 8; omega)
    exact ⟨h3 _ (by simp [leH]), h3 _ (by simp [leH]), h3 _ (by simp [leH]), h3 _ (by simp [leH]), h3 _ (by simp [leH]), h3 _ (by simp [leH]), h3 _ (by simp [leH]), trivial⟩
  refine (SW.block (SW.loopR (fun _ : List (Mk × Nat) => ⟨⟨33, getT [(6, .ptr 3 0), (7, intsV N false fl), (23, .ptr 7 0)]⟩, []⟩) (fun x => ⟨(7, .iter 1 cl (x.map (·.2)) cl) :: leH d XO ME cl RB nl3, 8⟩)
    (fun x => (ME.filter fun y => !((x.map (·.2)).contains y.2.2)).length) (fun x => ∀ p ∈ x, p ∈ E ∧ withinL p.1 N fl = false) [] (fun _ h => nomatch h) (tabR []) ?_ fun x hx => ?_))
  · refine WeakR.tab rfl rfl (by simp) (by rfl) (Nat.le_refl _) (by rfl) ⟨RenV.ptr (by omega), RenV.closed hlb, RenV.ptr (by omega), trivial⟩ (hobj _ _ _ rfl (.iter (by omega)) ?_)
    intro p hp
    unfold leH at hp
    simp only [List.mem_cons, List.not_mem_nil, or_false] at hp
    rcases hp with rfl | rfl | rfl | rfl | rfl | rfl | rfl | rfl <;> rfl
  obtain ⟨S, hS⟩ : ∃ s, x.map (·.2) = s := ⟨_, rfl⟩
  rw [hS]
  refine SW.seq (SW.runN tok hO 0 (by cbv <;> rfl) (by trivial) ?_)
  refine OpsW.nextL (a := .ptr 7 0) (by cbv <;> rfl) (by rfl) (by rfl) hborn (fun hend => ?_) (fun y hy hny => ?_)
  · refine OpsW.run tok hO (by cbv <;> rfl) (by trivial) ?_
    refine SW.seq (SW.cond (t := false) (by cbv <;> rfl) (SW.exit ?_))
    refine ⟨RB, rfl, _, _, rfl, (by show 7 ≤ 8; omega), .inl ⟨rfl, hQ1 fun p hp => ?_, fun id o ho => ?_⟩⟩
    · have hin : p.2 ∈ S := by
        have := List.filter_eq_nil_iff.1 hend _ (hmemE p hp)
        simpa using this
      rw [← hS] at hin
      obtain ⟨q, hq, hqp⟩ := List.mem_map.1 hin
      have h5 : q ∈ E.filter (fun y => Nat.beq y.2 p.2) := List.mem_filter.2 ⟨(hx q hq).1, by show Nat.beq q.2 p.2 = true; rw [hqp]; exact Nat.beq_refl _⟩
      rw [filter_one' (g := fun y : Mk × Nat => y.2) hb.2 hp, List.mem_singleton] at h5
      rw [← h5]
      exact (hx q hq).2
    · have hm := Hp.mem_of_get ho
      unfold leH at hm
      simp only [List.mem_cons, List.not_mem_nil, or_false, Prod.mk.injEq] at hm
      rcases hm with ⟨rfl, rfl⟩ | ⟨rfl, rfl⟩ | ⟨rfl, rfl⟩ | ⟨rfl, rfl⟩ | ⟨rfl, rfl⟩ | ⟨rfl, rfl⟩ | ⟨rfl, rfl⟩ <;> first | rfl | (rw [hRB]; rfl)
  · obtain ⟨p, hp, rfl⟩ := hes y hy
    have hw := hwith p.1
    have hfil : ME.filter (fun x => Nat.beq x.2.2 p.2) = [(mkV p.1, .lit (.bool true), p.2)] := filter_one' (g := fun x : AV × AV × Nat => x.2.2) (x := (mkV p.1, .lit (.bool true), p.2)) (by rw [hmap]; exact hb.2) hy
    have hQ2p := hQ2 p hp
    have hxp : ∀ q ∈ x ++ [p], q ∈ E := fun q hq => by
      rcases List.mem_append.1 hq with hq | hq
      · exact (hx q hq).1
      · rw [List.mem_singleton.1 hq]; exact hp
    have hxw : withinL p.1 N fl = false → ∀ q ∈ x ++ [p], withinL q.1 N fl = false := fun h q hq => by
      rcases List.mem_append.1 hq with hq | hq
      · exact (hx q hq).2
      · rw [List.mem_singleton.1 hq]; exact h
    have hnx : (ME.filter fun y => !(((x ++ [p]).map (·.2)).contains y.2.2)).length < (ME.filter fun y => !((x.map (·.2)).contains y.2.2)).length := by
      refine filter_lt (p := (mkV p.1, AV.lit (.bool true), p.2)) (fun q h => ?_) (hmemE p hp) ?_ ?_
      · simp at h ⊢; exact h.1
      · show (!(x.map (·.2)).contains p.2) = true
        have : S.contains p.2 = false := hny
        rw [hS, this]; rfl
      · show (!((x ++ [p]).map (·.2)).contains p.2) = false
        simp
    rw [hS] at hnx
    have hSx : (x ++ [p]).map (·.2) = S ++ [p.2] := by rw [List.map_append, hS]; rfl
    rw [hSx] at hnx
    generalize withinL p.1 N fl = W at hw hQ2p hxw
    obtain ⟨⟨b0, b1, b2, b3, b4⟩, born⟩ := p
    obtain ⟨S2, hS2⟩ : ∃ s, S ++ [born] = s := ⟨_, rfl⟩
    simp only [hS2] at hnx hSx
    show OpsW _ _ _ _ _ _ ⟨(7, .iter 1 cl (S ++ [born]) cl) :: leH d XO ME cl RB nl3, 8⟩
    rw [hS2]
    refine OpsW.run tok hO (by cbv <;> rfl) (by trivial) ?_
    refine SW.seq (SW.cond (t := true) (by cbv <;> rfl) (SW.skip ?_))
    refine SW.block ?_
    refine SW.seq (SW.runN tok hO 0 (by cbv <;> rfl) (by trivial) ?_)
    have hlast : S2.getLast? = some born := by rw [← hS2]; simp
    refine OpsW.entryL (a := .ptr 7 0) (by cbv <;> rfl) (by rfl) (by rfl) hlast hborn2 hfil ?_
    refine OpsW.run tok hO (by cbv <;> rfl) (by trivial) ?_
    refine SW.seq (SW.runN tok hO 2 (by cbv <;> rfl) (by trivial) ?_)
    refine OpsW.callP hw (by cbv <;> rfl) ?_
    refine OpsW.run tok hO (by cbv <;> rfl) (by trivial) ?_
    refine SW.condS (by cbv <;> rfl) (fun h3 => ?_) (fun h3 => SW.skip ?_)
    · have hW : W = true := h3
      refine SW.seqRun tok hO (by cbv <;> rfl) (by trivial) ?_
      refine SW.exit ?_
      refine ⟨RB, rfl, _, _, rfl, (by show 7 ≤ 9; omega), .inr ⟨rfl, hQ2p hW, fun id o ho => ?_⟩⟩
      have hm := Hp.mem_of_get ho
      unfold leH at hm
      simp only [List.mem_cons, List.not_mem_nil, or_false, Prod.mk.injEq] at hm
      rcases hm with ⟨rfl, rfl⟩ | ⟨rfl, rfl⟩ | ⟨rfl, rfl⟩ | ⟨rfl, rfl⟩ | ⟨rfl, rfl⟩ | ⟨rfl, rfl⟩ | ⟨rfl, rfl⟩ <;> first | rfl | (rw [hRB]; rfl)
    · have hW : W = false := h3
      refine ⟨x ++ [((b0, b1, b2, b3, b4), born)], ?_, fun q hq => ⟨hxp q hq, hxw hW q hq⟩, tabR [], ?_⟩
      · rw [hSx]; exact hnx
      · rw [hSx]
        refine WeakR.tab rfl rfl (by simp) (by rfl) (Nat.le_refl _) (by rfl) ⟨RenV.ptr (by omega), RenV.closed hlb, RenV.ptr (by omega), trivial⟩ (hobj _ _ _ rfl (.iter (by omega)) ?_)
        intro p hp
        unfold leH at hp
        simp only [List.mem_cons, List.not_mem_nil, or_false] at hp
        rcases hp with rfl | rfl | rfl | rfl | rfl | rfl | rfl | rfl <;> rfl
include hX hb in
theorem le_round (l : List Nat) (hl : l.length < 1000) :
    YieldW Try.prog 6 [lsV l] ⟨leH d XO (mapE mkV E) cl leR nl3, 7⟩ (fun v st' => ∃ R n', st' = ⟨R, n'⟩ ∧ 7 ≤ n' ∧
      ((v = .lit (.bool true) ∧ leaveQ E l = false ∧ ∀ id o, Hp.get (leH d XO (mapE mkV E) cl leR nl3) id = some o → R.get id = some o) ∨
       (v = .lit (.bool false) ∧ leaveQ E l = true ∧ ∀ id o, Hp.get (leH d XO (mapE mkV E) cl leRx (lsV l)) id = some o → R.get id = some o))) :=
  le_round0 d XO hX E cl hb l.length (fun i => ((l.getD i 0 : Nat) : Int)) (leaveQ E l) hl (fun h => by
    unfold leaveQ
    rw [List.any_eq_false]
    exact fun p hp => by rw [h p hp]; simp) (fun p hp h => List.any_eq_true.2 ⟨p, hp, h⟩)
end
end Go.Fz
namespace Go.Fz
open Go.Proofs
set_option maxRecDepth 100000
theorem allP_of {α : Type} {Q : α → Prop} : ∀ {l : List α}, (∀ p ∈ l, Q p) → AllP Q l
  | [], _ => trivial
  | x :: l, h => ⟨h x List.mem_cons_self, allP_of fun p hp => h p (List.mem_cons_of_mem _ hp)⟩
theorem risE_len {many : Nat} : ∀ (m : Nat) (p : List Nat) (s : Nat) (l : List Nat), l ∈ risE many m p s → l.length = m + p.length
  | 0, p, s, l, h => by rw [List.mem_singleton.1 h]; omega
  | m + 1, p, s, l, h => by
    obtain ⟨c, _, hc⟩ := List.mem_flatMap.1 h
    have := risE_len m _ _ _ hc
    rw [List.length_append, List.length_singleton] at this
    omega
theorem risL_len {many : Nat} {l : List Nat} (h : l ∈ risL many) : l.length ≤ many := by
  obtain ⟨m, hm, hl⟩ := List.mem_flatMap.1 h
  have := risE_len _ _ _ _ hl
  have := List.mem_range.1 hm
  simp at *
  omega
section
variable (d : DayD) (XO : AV) (E : List (Mk × Nat)) (cl : Nat)
def leK (seen : List (List Nat)) (h : Hp) (n : Nat) : Prop := h = leH d XO (mapE mkV E) cl leR nl3 ∧ 53 ≤ n ∧ ∀ l ∈ seen, leaveQ E l = false
def leS (seen : List (List Nat)) (l : List Nat) (h : Hp) (n : Nat) : Prop := h = leH d XO (mapE mkV E) cl leRx (lsV l) ∧ 53 ≤ n ∧ (∀ l' ∈ seen, leaveQ E l' = false) ∧ leaveQ E l = true
theorem leH_mem {ME : List (AV × AV × Nat)} {r : ALoop} {xs : AV} {p : Nat × AObj} (hp : p ∈ leH d XO ME cl r xs) : p.1 < 7 ∧ p.2.fam = none ∧ p.2.own = true ∧ Hp.get (leH d XO ME cl r xs) p.1 = some p.2 := by
  unfold leH at hp
  simp only [List.mem_cons, List.not_mem_nil, or_false] at hp
  rcases hp with rfl | rfl | rfl | rfl | rfl | rfl | rfl
  all_goals exact ⟨by show _ < 7; omega, rfl, rfl, rfl⟩
def sg7 (n2 i : Nat) : Nat := match Nat.blt i 7 with
  | true => i
  | false => n2 + i
theorem sg7_lo {n2 i : Nat} (h : i < 7) : sg7 n2 i = i := by
  have : Nat.blt i 7 = true := by rw [Nat.blt_eq]; exact h
  unfold sg7; rw [this]
theorem sg7_hi {n2 i : Nat} (h : ¬ i < 7) : sg7 n2 i = n2 + i := by
  have : Nat.blt i 7 = false := by rw [← Bool.not_eq_true, Nat.blt_eq]; exact h
  unfold sg7; rw [this]
theorem le_back (hX : Below 0 XO) {xs : AV} (hxs : Below 0 xs) (s : LoopState) (c : Option Code) {R : Hp} {n n2 : Nat} (hn : 53 ≤ n) (hg : ∀ id o, Hp.get (leH d XO (mapE mkV E) cl { leR with state := s, pending := c } xs) id = some o → R.get id = some o) :
    WeakX (sg7 n2) ⟨R, n2 + n⟩ ⟨leH d XO (mapE mkV E) cl { leR with state := s, pending := c } xs, n⟩ := by
  refine WeakX.of (fun _ => none) (fun i j f h => by cases h) (fun p hp q hq h => ?_) (allP_of fun p hp => ?_)
  · rw [sg7_lo (leH_mem _ _ _ hp).1, sg7_lo (leH_mem _ _ _ hq).1] at h
    exact h
  · obtain ⟨k1, k2, k3, k4⟩ := leH_mem _ _ _ hp
    refine ⟨by omega, p.2, ?_, .base (leH_renO d XO E cl hX hxs (mapE_closed E) (leR_ren (s := s) (c := c) rfl rfl rfl rfl (by omega)) rfl (by omega) p hp), k2⟩
    rw [sg7_lo k1]
    exact hg _ _ k4
theorem le_core (hX : Below 0 XO) (hb : Born E cl) (l : List Nat) (hl : l.length < 1000) (n : Nat) (hn : 53 ≤ n) :
    YieldW Try.prog 6 [lsV l] ⟨leH d XO (mapE mkV E) cl leR nl3, n⟩ (fun v st' => (v = .lit (.bool true) ∧ leaveQ E l = false ∧ st' = ⟨leH d XO (mapE mkV E) cl leR nl3, n⟩) ∨ (v = .lit (.bool false) ∧ leaveQ E l = true ∧ st' = ⟨leH d XO (mapE mkV E) cl leRx (lsV l), n⟩)) := by
  refine YieldW.canon (ρ := fun i => i) (st2 := ⟨leH d XO (mapE mkV E) cl leR nl3, 7⟩) rfl (by show 6 < 7; omega) (fun x hx => by rw [List.mem_singleton.1 hx]; exact lsV_below l) ?_ (le_round d XO hX E cl hb l hl) fun v st2' hk => ?_
  · refine WeakX.of (fun _ => none) (fun i j f h => by cases h) (fun p hp q hq h => h) (allP_of fun p hp => ?_)
    obtain ⟨k1, k2, k3, k4⟩ := leH_mem _ _ _ hp
    exact ⟨k1, p.2, k4, .base (leH_renO d XO E cl hX Below.lit (mapE_closed E) (leR_ren (s := leR.state) (c := leR.pending) rfl rfl rfl rfl (by omega)) rfl (by omega) p hp), k2⟩
  · obtain ⟨R, n', rfl, hn', hk⟩ := hk
    have hσ : ∀ id, id < n → (sg7 n' id = id ∧ (fun i : Nat => i) id = id ∧ id < 7) ∨ sg7 n' id = n' + id := fun id _ => by
      by_cases h : id < 7
      · exact .inl ⟨sg7_lo h, rfl, h⟩
      · exact .inr (sg7_hi h)
    rcases hk with ⟨rfl, hq, hg⟩ | ⟨rfl, hq, hg⟩
    · exact ⟨⟨⟨leH d XO (mapE mkV E) cl leR nl3, n⟩, sg7 n', .inl ⟨rfl, hq, rfl⟩, Below.lit, Nat.le_refl _, le_back d XO E cl hX Below.lit leR.state leR.pending hn hg, hσ⟩⟩
    · exact ⟨⟨⟨leH d XO (mapE mkV E) cl leRx (lsV l), n⟩, sg7 n', .inr ⟨rfl, hq, rfl⟩, Below.lit, Nat.le_refl _, le_back d XO E cl hX (lsV_below l) .done (some (.exit 0)) hn hg, hσ⟩⟩
theorem le_step (hX : Below 0 XO) (hb : Born E cl) : rsStep (leK d XO E cl) (leS d XO E cl) (fun l => l.length < 1000) 6 := fun seen l h n R hK hok hR => by
  obtain ⟨rfl, hn, hs⟩ := hK
  have ha : Apart R ⟨leH d XO (mapE mkV E) cl leR nl3, n⟩ := ⟨fun id o ho => (hR _ (Hp.mem_of_get ho)).2.2, fun id o ho => by
    cases hg : Hp.get (leH d XO (mapE mkV E) cl leR nl3) id with
    | none => rfl
    | some o' =>
      have h1 : id < 7 := (leH_mem _ _ _ (Hp.mem_of_get hg)).1
      have h2 : 49 ≤ id := (hR _ (Hp.mem_of_get ho)).1
      omega, fun i j oi oj hi hj ⟨f, _, k2⟩ => by
    have h2 : oj.fam = none := (leH_mem _ _ _ (Hp.mem_of_get hj)).2.1
    rw [h2] at k2; cases k2⟩
  refine (YieldW.frame ha (le_core d XO E cl hX hb l hok n hn) fun v st' hk id o ho => .inl ?_).mono fun v s hk => ?_
  · rcases hk with ⟨_, _, rfl⟩ | ⟨_, _, rfl⟩ <;> exact (leH_mem _ _ _ (Hp.mem_of_get ho)).2.2.1
  · obtain ⟨st', hk, rfl⟩ := hk
    rcases hk with ⟨rfl, hq, rfl⟩ | ⟨rfl, hq, rfl⟩
    · refine .inl ⟨rfl, _, n, Nat.le_refl _, rfl, rfl, hn, fun l' hl' => ?_⟩
      rcases List.mem_append.1 hl' with hl' | hl'
      · exact hs l' hl'
      · rw [List.mem_singleton.1 hl']; exact hq
    · exact .inr ⟨rfl, _, n, Nat.le_refl _, rfl, rfl, hn, hs, hq⟩
end
end Go.Fz
namespace Go.Fz
open Go.Proofs
set_option maxRecDepth 100000
def leaveV (E : List (Mk × Nat)) (many : Nat) : AV := match (risL many).find? (leaveQ E) with
  | some l => lsV l
  | none => nl3
theorem leaveV_below (E : List (Mk × Nat)) (many : Nat) : Below 0 (leaveV E many) := by
  unfold leaveV; split
  · exact lsV_below _
  · exact Below.lit
set_option maxHeartbeats 16000000 in
theorem leave_core (d : DayD) (E : List (Mk × Nat)) (cl : Nat) (l : List (Nat → Int)) (hb : Born E cl) (hnc : d.nc < 100)
    (e1 : Pure Try.prog 40 [dayV d] (iV 0)) (e2 : Fresh Try.prog 76 [dayV d] (workM d l) (mapE mkV E) cl) :
    Pure Try.prog 31 [dayV d] (.tup [leaveV E d.nc, iV 0]) := by
  obtain ⟨O, hO⟩ : ∃ O : Ar, O = std := ⟨_, rfl⟩
  refine pure_of_body tok 3 Try.func31 en31 rfl ⟨dayV_below d, trivial⟩ (Below.tup (AllB.ok ⟨leaveV_below _ _, Below.lit, trivial⟩)) ?_
  have hWW : workM d l = fun k => .agg [iV d.hand, iV d.flat, womsV d, lotsV d, cntsV d, outsI d l, .mp k] := rfl
  rw [hWW] at e2
  have hXb := outsI_below d l
  have hXO : outsI d l = nl3 ∨ ∃ L G, outsI d l = .isl L 8 false G := by
    cases l with
    | nil => exact .inl rfl
    | cons f l => exact .inr ⟨_, _, rfl⟩
  generalize outsI d l = XO at e2 hXO hXb
  have hris := rising101 (K := leK d XO E cl) (stop := leS d XO E cl) (ok := fun l => l.length < 1000) (mc := 4) (y := 6) (many := d.nc) (by omega) hnc (fun s h n hk => by
      obtain ⟨rfl, hn, _⟩ := hk
      exact ⟨hn, fun x hx => by obtain ⟨k1, k2, _⟩ := leH_mem _ _ _ hx; exact ⟨by omega, k2⟩, none, false, rfl⟩)
    (fun s l h n hk => by
      obtain ⟨rfl, hn, _⟩ := hk
      exact ⟨hn, fun x hx => by have := (leH_mem _ _ _ hx).1; omega⟩)
    (fun s h n n' hk hle => by
      obtain ⟨rfl, hn, hs⟩ := hk
      exact ⟨rfl, by omega, hs⟩) (fun l hl => by have := risL_len hl; show l.length < 1000; omega) (le_step d XO E cl hXb hb) (leH d XO (mapE mkV E) cl leR nl3) 7 (by omega) ⟨rfl, by omega, fun _ h => nomatch h⟩
  have hfinN : (∀ l ∈ risL d.nc, leaveQ E l = false) → leaveV E d.nc = nl3 := fun h => by
    unfold leaveV
    rw [List.find?_eq_none.2 fun l hl => by rw [h l hl]; simp]
  have hfinS : ∀ pre l post, risL d.nc = pre ++ l :: post → (∀ l' ∈ pre, leaveQ E l' = false) → leaveQ E l = true → leaveV E d.nc = lsV l := fun pre l post h1 h2 h3 => by
    unfold leaveV
    rw [h1, List.find?_append, List.find?_eq_none.2 fun l hl => by rw [h2 l hl]; simp, List.find?_cons, h3]
    rfl
  generalize leaveV E d.nc = LV at hfinN hfinS ⊢
  unfold leK leS at hris
  obtain ⟨ME, hME⟩ : ∃ m, mapE mkV E = m := ⟨_, rfl⟩
  rw [hME] at e2 hris
  refine SW.seqRun tok hO (by cbv <;> rfl) (by trivial) ?_
  refine SW.scope ?_
  refine SW.seq ?_
  refine SW.seqRun tok hO (by cbv <;> rfl) (by trivial) ?_
  refine OpsW.callP e1 (by cbv <;> rfl) ?_
  refine OpsW.run tok hO (by cbv <;> rfl) (by trivial) ?_
  refine SW.seqRun tok hO (by cbv <;> rfl) (by trivial) ?_
  refine SW.condS (by cbv <;> rfl) (fun h1 => ?_) (fun h1 => SW.skip ?_)
  · exfalso
    subst hO; simp [std] at h1
  refine SW.seq ((show SW Try.prog none _ (midK 33 [(1, .ptr 0 0), (5, .ptr 2 0)] ⟨[(2, .cells none false [iV d.hand, iV d.flat, womsV d, lotsV d, cntsV d, XO, .mp 1]), (1, .map ME cl), (0, .cells none false (dayC d))], 3⟩) _ _ from ?_).mono fun e f st hm => ?_)
  · rcases hXO with rfl | ⟨L, G, rfl⟩
    · refine SW.runN tok hO 1 (by cbv <;> rfl) (by trivial) ?_
      refine OpsW.callS e2.ent (e2.call _) (by cbv <;> rfl) fun v st' hk => ?_
      obtain ⟨rfl, rfl⟩ := hk
      refine OpsW.run tok hO (by cbv <;> rfl) (by trivial) ?_
      exact ⟨rfl, _, rfl, ⟨rfl, rfl, trivial⟩, rfl⟩
    · refine SW.runN tok hO 1 (by cbv <;> rfl) (by trivial) ?_
      refine OpsW.callS e2.ent (e2.call _) (by cbv <;> rfl) fun v st' hk => ?_
      obtain ⟨rfl, rfl⟩ := hk
      refine OpsW.run tok hO (by cbv <;> rfl) (by trivial) ?_
      exact ⟨rfl, _, rfl, ⟨rfl, rfl, trivial⟩, rfl⟩
  obtain ⟨rfl, g, rfl, ⟨g1, g5, _⟩, rfl⟩ := hm
  simp only at g1 g5
  rw [← updT_self g1, ← updT_self g5]
  clear e2 hXO
  show SW _ _ _ _ _ _
  refine SW.seqRun tok hO (by cbv <;> rfl) (by trivial) ?_
  refine SW.seq (SW.label ?_)
  refine SW.seq ?_
  refine SW.seqRun tok hO (by cbv <;> rfl) (by trivial) ?_
  refine OpsW.callS en74 (rising74 (many := d.nc) _ _) (by cbv <;> rfl) fun v st' hk => ?_
  obtain ⟨rfl, rfl⟩ := hk
  refine OpsW.run tok hO (by cbv <;> rfl) (by trivial) ?_
  refine SW.block ?_
  refine SW.pre (f2 := ⟨⟨33, getT leL⟩, []⟩) (st2 := ⟨[(4, .cells none false [iV (d.nc : Int)]), (3, .cells none false [nl3]), (2, .cells none false [iV d.hand, iV d.flat, womsV d, lotsV d, cntsV d, XO, .mp 1]), (1, .map ME cl), (0, .cells none false (dayC d))], 5⟩) ?_ ?_
  · exact Weak.by rfl rfl (fun _ h => nomatch h) (Nat.le_refl _) (Nat.le_refl _) ⟨⟨rfl, .inl rfl⟩, ⟨rfl, .inl rfl⟩, ⟨rfl, .inl rfl⟩, trivial⟩ ⟨⟨rfl, by show _ < 5; omega, .inl rfl⟩, ⟨rfl, by show _ < 5; omega, .inl rfl⟩, ⟨rfl, by show _ < 5; omega, .inl rfl⟩, ⟨rfl, by show _ < 5; omega, .inl rfl⟩, ⟨rfl, by show _ < 5; omega, .inl rfl⟩, trivial⟩
  refine SW.rangeFunc (gf := 101) (first := []) (caps := [.ptr 4 0]) (by rfl) en101 ?_
  refine CallW.mono (show CallW Try.prog 101 [.yld 6, .ptr 4 0] ⟨leH d XO ME cl leR nl3, 7⟩ _ from hris) fun v st' hk => ?_
  obtain ⟨h, n, rfl, hk | ⟨pre, l, post, hE, hk⟩⟩ := hk
  · obtain ⟨rfl, hn, hseen⟩ := hk
    refine ⟨leR, rfl, (fun h => by simp [leR] at h), ?_⟩
    rw [hfinN hseen]
    show SW _ _ _ _ _ _
    refine SW.seqRun tok hO (by cbv <;> rfl) (by trivial) ?_
    exact SW.ret ⟨_, _, rfl, rfl, Eqv.of rfl⟩
  · obtain ⟨rfl, hn, hpre, hl⟩ := hk
    refine ⟨leRx, rfl, (fun h => by simp [leRx, leR] at h), ?_⟩
    rw [hfinS pre l post hE hpre hl]
    obtain ⟨N, fl, hlv⟩ : ∃ N fl, lsV l = intsV N false fl := ⟨_, _, rfl⟩
    rw [hlv]
    refine SW.exit ?_
    show SW _ _ _ _ _ _
    refine SW.seqRun tok hO (by cbv <;> rfl) (by trivial) ?_
    exact SW.ret ⟨_, _, rfl, rfl, Eqv.of rfl⟩
end Go.Fz
namespace Go.Fz
open Go.Proofs
set_option maxRecDepth 100000
set_option maxHeartbeats 16000000 in
theorem ends59_core (g : FuncId) (val : PK → Int) (E : List (PK × Nat)) (cl : Nat) (hb : BornG E cl) (hE : E.length < 100000) (hof : ∀ p ∈ E, Pure Try.prog g [pkV p.1] (iV (val p.1))) (lo hi : Int)
    (hlo : ∃ p ∈ E, val p.1 = lo) (hlo' : ∀ p ∈ E, lo ≤ val p.1) (hhi : ∃ p ∈ E, val p.1 = hi) (hhi' : ∀ p ∈ E, val p.1 ≤ hi) :
    CallW Try.prog 59 [.fn (.func 99) [] [.ptr 1 0], .fn (.func g) [] []] (roM (mapE pkV E) cl) (fun v st' => st'.h.get 0 = some (.map (mapE pkV E) cl) ∧ freeB st'.h not01 = true ∧ Eqv (frz st'.h not01 3 v) (rangeV lo hi)) := by
  obtain ⟨O, hO⟩ : ∃ O : Ar, O = std := ⟨_, rfl⟩
  obtain ⟨ME, hME⟩ : ∃ m, mapE pkV E = m := ⟨_, rfl⟩
  have hkeys := keys99 g val E cl hb hE hof
  rw [hME] at hkeys ⊢
  refine callW_of_body tok Try.func59 rfl ?_
  refine SW.seqRun tok hO (by cbv <;> rfl) (by trivial) ?_
  refine SW.seqRun tok hO (by cbv <;> rfl) (by trivial) ?_
  refine SW.seq ?_
  refine SW.seqRun tok hO (by cbv <;> rfl) (by trivial) ?_
  refine SW.block ?_
  refine SW.pre (f2 := ⟨⟨24, getT enL⟩, []⟩) (st2 := ⟨[(4, .cells none false [nl3]), (3, .cells none false [iV 0, iV 0]), (2, .cells none false [.fn (.func g) [] []]), (1, .cells none true [.mp 0]), (0, .map ME cl)], 5⟩) ?_ ?_
  · exact Weak.by rfl rfl (fun _ h => nomatch h) (Nat.le_refl _) (Nat.le_refl _) ⟨⟨rfl, .inl rfl⟩, ⟨rfl, .inl rfl⟩, ⟨rfl, .inl rfl⟩, ⟨rfl, .inl rfl⟩, trivial⟩ ⟨⟨rfl, by show _ < 5; omega, .inl rfl⟩, ⟨rfl, by show _ < 5; omega, .inl rfl⟩, ⟨rfl, by show _ < 5; omega, .inl rfl⟩, ⟨rfl, by show _ < 5; omega, .inl rfl⟩, ⟨rfl, by show _ < 5; omega, .inl rfl⟩, trivial⟩
  refine SW.rangeFunc (gf := 99) (first := []) (caps := [.ptr 1 0]) (by rfl) en99 ?_
  refine (show CallW Try.prog 99 [.yld 6, .ptr 1 0] ⟨enH g ME cl nl3, 7⟩ _ from hkeys _ fun x it hit hxl hx hcov => ?_)
  refine ⟨enR, rfl, (fun h => by simp [enR] at h), ?_⟩
  have hne : x.length ≠ 0 := fun h => by
    obtain ⟨p, hp, _⟩ := hlo
    have := hcov p hp
    rw [List.length_eq_zero_iff.1 h] at this
    cases this
  have hlen : x.length < 100000 := by omega
  have hmem : ∀ i, i < x.length → ∃ p ∈ E, vsL val x i = val p.1 := fun i hi => ⟨x[i], hx _ (List.getElem_mem hi), by unfold vsL; simp [hi]⟩
  have hcv : ∀ p ∈ E, ∃ i, i < x.length ∧ vsL val x i = val p.1 := fun p hp => by
    obtain ⟨i, hi, he⟩ := List.getElem_of_mem (hcov p hp)
    exact ⟨i, hi, by unfold vsL; simp [hi, he]⟩
  generalize vsL val x = V at hmem hcv ⊢
  generalize x.length = N at hne hlen hmem hcv ⊢
  obtain ⟨m, rfl⟩ : ∃ m, N = m + 1 := ⟨N - 1, by omega⟩
  obtain ⟨G, hG⟩ : ∃ G, G = flatG 1 (intC V) (m + 1) := ⟨_, rfl⟩
  show SW Try.prog none _ _ ⟨⟨24, getT enL⟩, [5]⟩ ⟨(7, it) :: (6, .loop { enR with state := .exhausted }) :: (5, .dfr) :: (4, .cells none false [.sl 8 0 (m + 1) 1 false]) :: (3, .cells none false [iV 0, iV 0]) :: (2, .cells none false [.fn (.func g) [] []]) :: (1, .cells none true [.mp 0]) :: (0, .map ME cl) :: [(8, .cells none false (flatG 1 (intC V) (m + 1)))], 9⟩
  rw [← hG]
  refine SW.pre (f2 := ⟨⟨24, getT [(4, .ptr 3 0), (5, .ptr 4 0)]⟩, [5]⟩) (st2 := ⟨[(8, .cells none false G), (5, .dfr), (4, .cells none false [.sl 8 0 (m + 1) 1 false]), (3, .cells none false [iV 0, iV 0]), (1, .cells none true [.mp 0]), (0, .map ME cl)], 9⟩) ?_ ?_
  · exact Weak.by rfl rfl (by simp) (Nat.le_refl _) (Nat.le_refl _) ⟨⟨rfl, .inl rfl⟩, ⟨rfl, .inl rfl⟩, trivial⟩ ⟨⟨rfl, by show _ < 9; omega, .inl rfl⟩, ⟨rfl, by show _ < 9; omega, .inl rfl⟩, ⟨rfl, by show _ < 9; omega, .inl rfl⟩, ⟨rfl, by show _ < 9; omega, .inl rfl⟩, ⟨rfl, by show _ < 9; omega, .inl rfl⟩, ⟨rfl, by show _ < 9; omega, .inl rfl⟩, trivial⟩
  refine SW.freezeZ (fun j => Nat.beq j 8) 3 (by rfl) ?_
  obtain ⟨NN, hNN⟩ : ∃ NN, NN = m + 1 := ⟨_, rfl⟩
  refine SW.preR (f2 := ⟨⟨24, getT [(4, .ptr 3 0), (5, .ptr 4 0)]⟩, [5]⟩) (st2 := ⟨[(5, .dfr), (4, .cells none false [intsV NN false V]), (3, .cells none false [iV 0, iV 0]), (1, .cells none true [.mp 0]), (0, .map ME cl)] ++ [], 9⟩) (ρ := ren1 9 9) ?_ ?_
  · refine WeakR.up rfl rfl (fun id h => by rw [List.mem_singleton.1 h]; show 5 < 9; omega) (Nat.le_refl _) (.inl rfl) (Nat.le_refl _) ⟨RenV.ptr (by omega), RenV.ptr (by omega), trivial⟩
      ⟨⟨by omega, _, rfl, .dfr, .inr rfl⟩, ⟨by omega, _, rfl, .cells (.cons (RenV.eqv (RenV.closed (intsV_below _ _ _)) ?_) .nil), .inr rfl⟩, ⟨by omega, _, rfl, .cells (.cons (RenV.closed Below.lit) (.cons (RenV.closed Below.lit) .nil)), .inr rfl⟩, ⟨by omega, _, rfl, .cells (.cons (RenV.mp (by omega)) .nil), .inr rfl⟩, ⟨by omega, _, rfl, .map (by rw [← hME]; exact fun x hx => by obtain ⟨p, _, rfl⟩ := List.mem_map.1 hx; exact ⟨pkV_below _, Below.lit⟩), .inr rfl⟩, trivial⟩ (fun p hp => by cases hp)
    rw [frz_slE (fm := none) (G := G) rfl rfl (by rw [hG, flatG_length]; omega), hNN]
    exact Eqv.isl rfl fun i k hi hk => Eqv.of (by rw [hG]; exact frz_flat hi hk rfl)
  have hN0 : (0 : Int) < Int.ofNat NN := by rw [hNN]; exact Int.ofNat_lt.2 (Nat.succ_pos m)
  have hmin : leN (V 0) (fun i => V (1 + i)) m = lo := by
    obtain ⟨⟨h1, h2⟩, h3⟩ := leN_le (V 0) (fun i => V (1 + i)) m
    obtain ⟨p, hp, he⟩ := hlo
    obtain ⟨i, hi, hVi⟩ := hcv p hp
    have hge : leN (V 0) (fun i => V (1 + i)) m ≤ lo := by
      rw [← he, ← hVi]
      cases i with
      | zero => exact h1
      | succ i =>
        have h4 : leN (V 0) (fun i => V (1 + i)) m ≤ V (1 + i) := h2 i (by omega)
        rw [show 1 + i = i + 1 by omega] at h4; exact h4
    have hle : lo ≤ leN (V 0) (fun i => V (1 + i)) m := by
      rcases h3 with h3 | ⟨j, hj, h3⟩
      · obtain ⟨p, hp, e⟩ := hmem 0 (by omega)
        rw [h3, e]; exact hlo' p hp
      · obtain ⟨p, hp, e⟩ := hmem (1 + j) (by omega)
        rw [h3]
        show lo ≤ V (1 + j)
        rw [e]; exact hlo' p hp
    omega
  have hmax : grN (V 0) (fun i => V (i + 1)) m = hi := by
    obtain ⟨⟨h1, h2⟩, h3⟩ := grN_ge (V 0) (fun i => V (i + 1)) m
    obtain ⟨p, hp, he⟩ := hhi
    obtain ⟨i, hi', hVi⟩ := hcv p hp
    have hge : hi ≤ grN (V 0) (fun i => V (i + 1)) m := by
      rw [← he, ← hVi]
      cases i with
      | zero => exact h1
      | succ i => exact h2 i (by omega)
    have hle : grN (V 0) (fun i => V (i + 1)) m ≤ hi := by
      rcases h3 with h3 | ⟨j, hj, h3⟩
      · obtain ⟨p, hp, e⟩ := hmem 0 (by omega)
        rw [h3, e]; exact hhi' p hp
      · obtain ⟨p, hp, e⟩ := hmem (j + 1) (by omega)
        rw [h3]
        show V (j + 1) ≤ hi
        rw [e]; exact hhi' p hp
    omega
  have c97 : Pure Try.prog 97 [iV (V (O.nat 0)), .isl (O.sub NN (O.nat 1)) 1 false (fun i => intC V (O.add (O.nat 1) i))] (iV lo) := by
    subst hO
    show Pure Try.prog 97 [iV (V 0), intsV (NN - 1) false (fun i => V (1 + i))] (iV lo)
    rw [hNN, Nat.add_sub_cancel, ← hmin]
    exact least_ok (V 0) m false (fun i => V (1 + i)) (by omega)
  have c98 : Pure Try.prog 98 [.isl NN 1 false (intC V)] (iV hi) := by
    have := greatest_ok NN false V (by omega) (by omega)
    rw [hNN, Nat.add_sub_cancel, hmax, ← hNN] at this
    exact this
  refine SW.seqRunD tok mixed hO (by rfl) (by cbv <;> rfl) ?_ ?_
  · have hn1 : O.nat 1 = 1 := by subst hO; rfl
    refine ⟨?_, Nat.le_refl _, (by decide : (0 : Int) ≤ 1), Int.le_refl _, hN0⟩
    show O.nat 1 ≤ NN
    rw [hn1]; omega
  refine AnyE.callP c97 (by cbv <;> rfl) (by cbv <;> rfl) ?_
  refine AnyE.run tok hO (by rfl) (by cbv <;> rfl) (by trivial) ?_
  refine AnyE.callP c98 (by cbv <;> rfl) (by cbv <;> rfl) ?_
  refine AnyE.run tok hO (by rfl) (by cbv <;> rfl) (by trivial) ?_
  refine AnyE.eff tok hO (by cbv <;> rfl) (by cbv <;> rfl) (by trivial) ?_
  refine AnyE.done (by rfl) ?_
  exact SW.ret ⟨_, _, rfl, rfl, rfl, rfl, Eqv.of rfl⟩
theorem ends59 (g : FuncId) (val : PK → Int) (E : List (PK × Nat)) (cl : Nat) (hb : BornG E cl) (hE : E.length < 100000) (hof : ∀ p ∈ E, Pure Try.prog g [pkV p.1] (iV (val p.1))) (lo hi : Int)
    (hlo : ∃ p ∈ E, val p.1 = lo) (hlo' : ∀ p ∈ E, lo ≤ val p.1) (hhi : ∃ p ∈ E, val p.1 = hi) (hhi' : ∀ p ∈ E, val p.1 ≤ hi) {st : St} {mid bid : Nat} {fm : Option Nat} {ro : Bool}
    (hm : st.h.get mid = some (.map (mapE pkV E) cl)) (hc : st.h.get bid = some (.cells fm ro [.mp mid])) :
    CallW Try.prog 59 [.fn (.func 99) [] [.ptr bid 0], .fn (.func g) [] []] st (fun v st' => v = rangeV lo hi ∧ st' = st) := by
  refine call_roM (args2 := [.fn (.func 99) [] [.ptr 1 0], .fn (.func g) [] []]) hm hc (fun x hx => by obtain ⟨p, _, rfl⟩ := List.mem_map.1 hx; exact ⟨pkV_below _, Below.lit⟩) (Below.agg (AllB.ok ⟨Below.lit, Below.lit, trivial⟩)) (fun φ us h => ?_) (ends59_core g val E cl hb hE hof lo hi hlo hlo' hhi hhi')
  cases h with
  | cons h1 h2 =>
    obtain ⟨us1, vs1, rfl, k1, k2⟩ := h1.fn_inv
    cases h2 with
    | cons h3 h4 =>
      obtain ⟨us2, vs2, rfl, k3, k4⟩ := h3.fn_inv
      cases h4
      cases k1; cases k3; cases k4
      cases k2 with
      | cons k5 k6 =>
        cases k6
        obtain ⟨rfl, _⟩ := k5.ptr_inv
        refine .cons (.fn _ .nil (.cons ?_ .nil)) (.cons (.fn _ .nil .nil) .nil)
        exact VR.ptr (φ := ⟨fun i => if i = 0 then φ.f mid else φ.f bid, 2, φ.z⟩) 1 0 (by show 1 < 2; omega)
end Go.Fz
namespace Go.Fz
open Go.Proofs
set_option maxRecDepth 100000
noncomputable def evlP : Code × Code := match nthC 2 (bodyF Try.f65) with
  | .seq _ (.block _ (.rangeFunc _ _ a b)) => (a, b)
  | c => (c, c)
def evlT : List (Nat × AV) := [(3, .ptr 1 0), (4, .ptr 2 0), (5, .ptr 3 0), (7, .fn (.func 100) [] [.ptr 0 0])]
noncomputable def evlR : ALoop := { state := .ready, pending := none, tmps := ⟨24, getT evlT⟩, params := #[8], assign := evlP.1, body := evlP.2, dfid := 4 }
noncomputable def evlH (g : FuncId) (Y X : AV) : Hp :=
  [(5, .loop evlR), (4, .dfr), (3, .cells none false [X]), (2, .cells none false [iV 0, iV 0]), (1, .cells none false [.fn (.func g) [] []]), (0, .cells none true [Y])]
set_option maxHeartbeats 8000000 in
theorem ev_round0 (g : FuncId) (nw nl : Nat) (f0 f1 f2 f3 : Nat → Int) (z4 z5 z6 z7 : Int) (u : Int) (hof : Pure Try.prog g [.agg [intsV nw false f0, intsV nl false f1, intsV nw false f2, intsV nw false f3, iV z4, iV z5, iV z6, iV z7]] (iV u)) (Y : AV) :
    YieldW Try.prog 5 [.agg [intsV nw false f0, intsV nl false f1, intsV nw false f2, intsV nw false f3, iV z4, iV z5, iV z6, iV z7]] ⟨(7, .cells none false [intsV nw false f0, intsV nl false f1, intsV nw false f2, intsV nw false f3, iV z4, iV z5, iV z6, iV z7]) :: evlH g Y nl3, 8⟩
      (fun v st' => v = .lit (.bool true) ∧ st' = ⟨(10, .cells none false [iV u]) :: (9, .cells none false [iV u]) :: (8, .cells none false [intsV nw false f0, intsV nl false f1, intsV nw false f2, intsV nw false f3, iV z4, iV z5, iV z6, iV z7]) :: (7, .cells none false [intsV nw false f0, intsV nl false f1, intsV nw false f2, intsV nw false f3, iV z4, iV z5, iV z6, iV z7]) :: evlH g Y (.sl 10 0 1 1 false), 11⟩) := by
  obtain ⟨O, hO⟩ : ∃ O : Ar, O = std := ⟨_, rfl⟩
  refine YieldW.of_round (r := evlR) rfl rfl ?_
  refine SW.run tok hO (by cbv <;> rfl) (by trivial) ?_
  refine ⟨evlR, rfl, rfl, SW.block ?_⟩
  obtain ⟨RB, hRB⟩ : ∃ r, r = ({ evlR with state := .busy } : ALoop) := ⟨_, rfl⟩
  rw [← hRB]
  refine SW.runD tok mixed hO (by rfl) (by cbv <;> rfl) (by trivial) ?_
  refine AnyE.callP hof (by cbv <;> rfl) (by cbv <;> rfl) ?_
  refine AnyE.run tok hO (by rfl) (by cbv <;> rfl) (by trivial) ?_
  refine AnyE.effK tok hO (by cbv <;> rfl) (by cbv <;> rfl) (by trivial) ?_ ?_
  · exact (by repeat (first | exact trivial | refine And.intro (by first | exact lv_of hO (by cbv <;> rfl) (by trivial) | (cbv <;> rfl)) ?_))
  refine AnyE.run tok hO (by rfl) (by cbv <;> rfl) (by trivial) ?_
  refine AnyE.appNil tok (by cbv <;> rfl) (by cbv <;> rfl) (by rfl) (by kernel_rfl) (by rfl) (by rfl) ?_
  refine AnyE.run tok hO (by rfl) (by cbv <;> rfl) (by trivial) ?_
  refine AnyE.eff tok hO (by cbv <;> rfl) (by cbv <;> rfl) (by trivial) ?_
  refine AnyE.done (by rfl) ?_
  refine ⟨RB, rfl, rfl, ?_⟩
  subst hRB
  rfl
set_option maxHeartbeats 8000000 in
theorem ev_round1 (g : FuncId) (nw nl : Nat) (f0 f1 f2 f3 : Nat → Int) (z4 z5 z6 z7 : Int) (u : Int) (hof : Pure Try.prog g [.agg [intsV nw false f0, intsV nl false f1, intsV nw false f2, intsV nw false f3, iV z4, iV z5, iV z6, iV z7]] (iV u)) (Y : AV) (m : Nat) (hm : m < 100000) (fl : Nat → Int) (G : List AV) (hG : G = flatG 1 (intC fl) (m + 1)) :
    YieldW Try.prog 5 [.agg [intsV nw false f0, intsV nl false f1, intsV nw false f2, intsV nw false f3, iV z4, iV z5, iV z6, iV z7]] ⟨(7, .cells none false [intsV nw false f0, intsV nl false f1, intsV nw false f2, intsV nw false f3, iV z4, iV z5, iV z6, iV z7]) :: evlH g Y (.sl 6 0 (m + 1) 1 false) ++ [(6, .cells none false G)], 8⟩
      (fun v st' => v = .lit (.bool true) ∧ ∃ o8, st' = ⟨(10, .cells (some 6) false (G ++ [iV u])) :: (9, .cells none false [iV u]) :: (8, .cells none false [intsV nw false f0, intsV nl false f1, intsV nw false f2, intsV nw false f3, iV z4, iV z5, iV z6, iV z7]) :: (7, .cells none false [intsV nw false f0, intsV nl false f1, intsV nw false f2, intsV nw false f3, iV z4, iV z5, iV z6, iV z7]) :: evlH g Y (.sl 10 0 (m + 1 + 1) 1 false) ++ [(6, o8)], 11⟩) := by
  obtain ⟨O, hO⟩ : ∃ O : Ar, O = std := ⟨_, rfl⟩
  refine YieldW.of_round (r := evlR) rfl rfl ?_
  refine SW.run tok hO (by cbv <;> rfl) (by trivial) ?_
  refine ⟨evlR, rfl, rfl, SW.block ?_⟩
  obtain ⟨RB, hRB⟩ : ∃ r, r = ({ evlR with state := .busy } : ALoop) := ⟨_, rfl⟩
  rw [← hRB]
  refine SW.runD tok mixed hO (by rfl) (by cbv <;> rfl) (by trivial) ?_
  refine AnyE.callP hof (by cbv <;> rfl) (by cbv <;> rfl) ?_
  refine AnyE.run tok hO (by rfl) (by cbv <;> rfl) (by trivial) ?_
  refine AnyE.effK tok hO (by cbv <;> rfl) (by cbv <;> rfl) (by trivial) ?_ ?_
  · exact (by repeat (first | exact trivial | refine And.intro (by first | exact lv_of hO (by cbv <;> rfl) (by trivial) | (cbv <;> rfl)) ?_))
  refine AnyE.run tok hO (by rfl) (by cbv <;> rfl) (by trivial) ?_
  refine AnyE.appOne (g := intC fl) (len := m + 1) tok (by cbv <;> rfl) (by cbv <;> rfl) (by rfl) (by rfl) hG (by kernel_rfl) (by rfl) (by rfl) (by omega) fun G' hG' => ?_
  refine AnyE.run tok hO (by rfl) (by cbv <;> rfl) (by trivial) ?_
  refine AnyE.eff tok hO (by cbv <;> rfl) (by cbv <;> rfl) (by trivial) ?_
  refine AnyE.done (by rfl) ?_
  rw [← hG] at hG'
  subst hG'
  subst hRB
  exact ⟨_, rfl, rfl, _, rfl⟩
theorem evlR_ren (m : Nat) : RenO (ren1 6 m) 7 (.loop evlR) (.loop evlR) :=
  .loop rfl rfl rfl rfl rfl rfl (by show 4 < 7; omega) rfl (RenV.getT (l := evlT) ⟨RenV.ptr (by omega), RenV.ptr (by omega), RenV.ptr (by omega), RenV.fn .nil (.cons (RenV.ptr (by omega)) .nil), trivial⟩)
theorem outX_below (nw nl : Nat) (A B C D : Nat → Nat → Int) (a b c e : Nat → Int) (L : Nat) : Below 0 (.isl L 8 false (outX nw nl A B C D a b c e)) := Below.isl fun i k _ _ => by
  unfold outX
  split <;> first | exact intsV_below _ _ _ | exact Below.lit
set_option maxHeartbeats 16000000 in
theorem values100 (g : FuncId) (nw nl : Nat) (A B C D : Nat → Nat → Int) (a b c e : Nat → Int) (L : Nat) (hL : L < 100000) (V : Nat → Int)
    (hof : ∀ i, i < L → Pure Try.prog g [.agg [intsV nw false (A i), intsV nl false (B i), intsV nw false (C i), intsV nw false (D i), iV (a i), iV (b i), iV (c i), iV (e i)]] (iV (V i))) (K : AV → St → Prop)
    (hK : K (.tup []) ⟨evlH g (.isl L 8 false (outX nw nl A B C D a b c e)) (slG 6 1 L) ++ objG 6 1 (intC V) L, 7⟩) :
    CallW Try.prog 100 [.yld 5, .ptr 0 0] ⟨evlH g (.isl L 8 false (outX nw nl A B C D a b c e)) nl3, 6⟩ K := by
  obtain ⟨O, hO⟩ : ∃ O : Ar, O = std := ⟨_, rfl⟩
  have hnat : ∀ i : Nat, O.nat (Int.ofNat i) = i := fun i => by subst hO; rfl
  have hGb := outX_below nw nl A B C D a b c e L
  refine callW_of_body tok Try.func100 rfl ?_
  refine SW.seqRun tok hO (by cbv <;> rfl) (by trivial) ?_
  refine (SW.block (SW.loopR (fun i : Nat => ⟨⟨16, getT [(0, .yld 5), (1, .ptr 0 0), (5, .isl L 8 false (outX nw nl A B C D a b c e)), (6, iV L), (7, iV i)]⟩, []⟩) (fun i => ⟨evlH g (.isl L 8 false (outX nw nl A B C D a b c e)) (slG 6 1 i) ++ objG 6 1 (intC V) i, 7⟩)
    (fun i => L - i) (fun i => i ≤ L) 0 (Nat.zero_le _) (ren1 6 6) ?_ fun i hi => ?_))
  · exact WeakR.up rfl rfl (by simp) (Nat.le_refl _) (.inl rfl) (by show 6 ≤ 7; omega) ⟨RenV.yld (by omega), RenV.ptr (by omega), RenV.closed hGb, RenV.closed Below.lit, RenV.closed Below.lit, trivial⟩
      ⟨⟨by omega, _, rfl, evlR_ren 6, .inr rfl⟩, ⟨by omega, _, rfl, .dfr, .inr rfl⟩, ⟨by omega, _, rfl, .cells (.cons (RenV.closed Below.lit) .nil), .inr rfl⟩, ⟨by omega, _, rfl, .cells (.cons (RenV.closed Below.lit) (.cons (RenV.closed Below.lit) .nil)), .inr rfl⟩,
        ⟨by omega, _, rfl, .cells (.cons (RenV.closed (Below.fn (fun _ h => nomatch h) (fun _ h => nomatch h))) .nil), .inr rfl⟩, ⟨by omega, _, rfl, .cells (.cons (RenV.closed hGb) .nil), .inr rfl⟩, trivial⟩ (fun p hp => by cases hp)
  cases i with
  | zero =>
    refine SW.seqRun tok hO (by cbv <;> rfl) (by trivial) ?_
    refine SW.seq (SW.condS (by cbv <;> rfl) (fun h => SW.skip ?_) (fun h => SW.exit ?_))
    · have hlt : 0 < L := by subst hO; simpa [std] using h
      have h0 : (0 : Int) ≤ Int.ofNat 0 := Int.natCast_nonneg 0
      have hof' := hof 0 hlt
      obtain ⟨u, hu⟩ : ∃ u, V 0 = u := ⟨_, rfl⟩
      rw [hu] at hof'
      have hr := ev_round0 g nw nl (A 0) (B 0) (C 0) (D 0) (a 0) (b 0) (c 0) (e 0) u hof' (.isl L 8 false (outX nw nl A B C D a b c e))
      have hev : ∀ f : Nat → Nat → Int, f 0 = f (O.nat (Int.ofNat 0)) := fun f => by rw [hnat]
      have hev1 : ∀ f : Nat → Int, f 0 = f (O.nat (Int.ofNat 0)) := fun f => by rw [hnat]
      rw [hev A, hev B, hev C, hev D, hev1 a, hev1 b, hev1 c, hev1 e] at hr
      refine SW.seq (SW.block ?_)
      refine SW.seqRun tok hO (by cbv <;> rfl) ?_ ?_
      · exact ⟨h0, Int.ofNat_lt.2 hlt⟩
      refine SW.seq (SW.runN tok hO 2 (by cbv <;> rfl) (by trivial) ?_)
      refine OpsW.apply (c := .yld 5) (by cbv <;> rfl) hr fun v st' hv => ?_
      obtain ⟨rfl, rfl⟩ := hv
      refine OpsW.run tok hO (by cbv <;> rfl) (by trivial) ?_
      refine SW.cond (t := false) (by cbv <;> rfl) (SW.skip ?_)
      refine SW.run tok hO (by cbv <;> rfl) (by trivial) ?_
      refine ⟨1, by omega, hlt, ren1 6 10, ?_⟩
      refine WeakR.up rfl rfl (by simp) (Nat.le_refl _) (.inr (by omega)) (by show 6 ≤ 7; omega) ⟨RenV.yld (by omega), RenV.ptr (by omega), RenV.closed hGb, RenV.closed Below.lit, RenV.inc hO (by omega), trivial⟩
        ⟨⟨by omega, _, rfl, evlR_ren 10, .inr rfl⟩, ⟨by omega, _, rfl, .dfr, .inr rfl⟩, ⟨by omega, _, rfl, .cells (.cons (RenV.sl (by omega)) .nil), .inr rfl⟩, ⟨by omega, _, rfl, .cells (.cons (RenV.closed Below.lit) (.cons (RenV.closed Below.lit) .nil)), .inr rfl⟩,
          ⟨by omega, _, rfl, .cells (.cons (RenV.closed (Below.fn (fun _ h => nomatch h) (fun _ h => nomatch h))) .nil), .inr rfl⟩, ⟨by omega, _, rfl, .cells (.cons (RenV.closed hGb) .nil), .inr rfl⟩, trivial⟩ (fun p hp => ?_)
      obtain rfl := objG_mem hp
      exact ⟨by omega, _, rfl, .cells (RenVs.of_eq (by rw [← hu]; rfl) (flatG_below (fun _ _ => Below.lit) _)), .inl rfl⟩
    · have hge : L = 0 := by
        have : L ≤ 0 := by subst hO; simpa [std] using h
        omega
      subst hge
      exact ⟨_, _, rfl, rfl, hK⟩
  | succ i =>
    obtain ⟨G, hG⟩ : ∃ G, G = flatG 1 (intC V) (i + 1) := ⟨_, rfl⟩
    show SW _ _ _ _ _ ⟨evlH g (.isl L 8 false (outX nw nl A B C D a b c e)) (.sl 6 0 (i + 1) 1 false) ++ [(6, .cells none false (flatG 1 (intC V) (i + 1)))], 7⟩
    rw [← hG]
    refine SW.seqRun tok hO (by cbv <;> rfl) (by trivial) ?_
    refine SW.seq (SW.condS (by cbv <;> rfl) (fun h => SW.skip ?_) (fun h => SW.exit ?_))
    · have hlt : i + 1 < L := by
        have : ((i + 1 : Nat) : Int) < (L : Int) := by subst hO; simpa [std] using h
        omega
      have h0 : (0 : Int) ≤ Int.ofNat (i + 1) := Int.natCast_nonneg (i + 1)
      have hof' := hof (i + 1) hlt
      obtain ⟨u, hu⟩ : ∃ u, V (i + 1) = u := ⟨_, rfl⟩
      rw [hu] at hof'
      have hr := ev_round1 g nw nl (A (i + 1)) (B (i + 1)) (C (i + 1)) (D (i + 1)) (a (i + 1)) (b (i + 1)) (c (i + 1)) (e (i + 1)) u hof' (.isl L 8 false (outX nw nl A B C D a b c e)) i (by omega) V G hG
      have hev : ∀ f : Nat → Nat → Int, f (i + 1) = f (O.nat (Int.ofNat (i + 1))) := fun f => by rw [hnat]
      have hev1 : ∀ f : Nat → Int, f (i + 1) = f (O.nat (Int.ofNat (i + 1))) := fun f => by rw [hnat]
      rw [hev A, hev B, hev C, hev D, hev1 a, hev1 b, hev1 c, hev1 e] at hr
      refine SW.seq (SW.block ?_)
      refine SW.seqRun tok hO (by cbv <;> rfl) ?_ ?_
      · exact ⟨h0, Int.ofNat_lt.2 hlt⟩
      refine SW.seq (SW.runN tok hO 2 (by cbv <;> rfl) (by trivial) ?_)
      refine OpsW.apply (c := .yld 5) (by cbv <;> rfl) hr fun v st' hv => ?_
      obtain ⟨rfl, o8, rfl⟩ := hv
      obtain ⟨G2, hG2⟩ : ∃ G2, G ++ [iV u] = G2 := ⟨_, rfl⟩
      rw [hG2]
      refine OpsW.run tok hO (by cbv <;> rfl) (by trivial) ?_
      refine SW.cond (t := false) (by cbv <;> rfl) (SW.skip ?_)
      refine SW.run tok hO (by cbv <;> rfl) (by trivial) ?_
      refine ⟨i + 1 + 1, by omega, hlt, ren1 6 10, ?_⟩
      refine WeakR.up rfl rfl (by simp) (Nat.le_refl _) (.inr (by omega)) (by show 6 ≤ 7; omega) ⟨RenV.yld (by omega), RenV.ptr (by omega), RenV.closed hGb, RenV.closed Below.lit, RenV.inc hO (by omega), trivial⟩
        ⟨⟨by omega, _, rfl, evlR_ren 10, .inr rfl⟩, ⟨by omega, _, rfl, .dfr, .inr rfl⟩, ⟨by omega, _, rfl, .cells (.cons (RenV.sl (by omega)) .nil), .inr rfl⟩, ⟨by omega, _, rfl, .cells (.cons (RenV.closed Below.lit) (.cons (RenV.closed Below.lit) .nil)), .inr rfl⟩,
          ⟨by omega, _, rfl, .cells (.cons (RenV.closed (Below.fn (fun _ h => nomatch h) (fun _ h => nomatch h))) .nil), .inr rfl⟩, ⟨by omega, _, rfl, .cells (.cons (RenV.closed hGb) .nil), .inr rfl⟩, trivial⟩ (fun p hp => ?_)
      obtain rfl := objG_mem hp
      exact ⟨by omega, _, rfl, .cells (RenVs.of_eq (by rw [← hG2, hG, ← hu]; rfl) (flatG_below (fun _ _ => Below.lit) _)), .inl rfl⟩
    · have hge : L = i + 1 := by
        have : (L : Int) ≤ ((i + 1 : Nat) : Int) := by subst hO; simpa [std] using h
        omega
      subst hge
      rw [hG]
      exact ⟨_, _, rfl, rfl, hK⟩
end Go.Fz
