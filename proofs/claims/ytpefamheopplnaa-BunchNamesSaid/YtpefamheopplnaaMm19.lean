/- Own work of the verifier of watercress: FzD5, FzJ4, FzG1, FzG2, FzG3, FzG4. -/
import Derived.Test.YtpefamheopplnaaMm18
set_option linter.unusedVariables false
set_option linter.unusedSimpArgs false
namespace Go.Fz
open Go.Proofs
set_option maxRecDepth 100000
noncomputable def evlP : Code × Code := match nthC 2 (bodyF Try.f65) with
  | .seq _ (.block _ (.rangeFunc _ _ a b)) => (a, b)
  | c => (c, c)
def evlT : List (Nat × AV) := [(3, .ptr 1 0), (4, .ptr 2 0), (5, .ptr 3 0), (7, .fn (.func 100) [] [.ptr 0 0])]
noncomputable def evlR : ALoop := { state := .ready, pending := none, tmps := ⟨24, getT evlT⟩, params := #[8], assign := evlP.1, body := evlP.2, dfid := 4 }
noncomputable def evlH (g : FuncId) (Y X : AV) : Hp :=
  [(5, .loop evlR), (4, .dfr), (3, .cells none false [X]), (2, .cells none false [iV 0, iV 0]), (1, .cells none false [.fn (.func g) [] []]), (0, .cells none true [Y])]
set_option maxHeartbeats 8000000 in
theorem ev_round0 (g : FuncId) (nw nl : Nat) (f0 f1 f2 f3 : Nat → Int) (z4 z5 z6 z7 : Int) (u : Int) (hof : Pure Try.prog g [.agg [intsV nw false f0, intsV nl false f1, intsV nw false f2, intsV nw false f3, iV z4, iV z5, iV z6, iV z7]] (iV u)) (Y : AV) :
    YieldW Try.prog 5 [.agg [intsV nw false f0, intsV nl false f1, intsV nw false f2, intsV nw false f3, iV z4, iV z5, iV z6, iV z7]] ⟨(7, .cells none false [intsV nw false f0, intsV nl false f1, intsV nw false f2, intsV nw false f3, iV z4, iV z5, iV z6, iV z7]) :: evlH g Y nl3, 8⟩
      (fun v st' => v = .lit (.bool true) ∧ st' = ⟨(10, .cells none false [iV u]) :: (9, .cells none false [iV u]) :: (8, .cells none false [intsV nw false f0, intsV nl false f1, intsV nw false f2, intsV nw false f3, iV z4, iV z5, iV z6, iV z7]) :: (7, .cells none false [intsV nw false f0, intsV nl false f1, intsV nw false f2, intsV nw false f3, iV z4, iV z5, iV z6, iV z7]) :: evlH g Y (.sl 10 0 1 1 false), 11⟩) := by
  obtain ⟨O, hO⟩ : ∃ O : Ar, O = std := ⟨_, rfl⟩
  refine YieldW.of_round (r := evlR) rfl rfl ?_
  refine SW.run tok hO (by cbv <;> rfl) (by trivial) ?_
  refine ⟨evlR, rfl, rfl, SW.block ?_⟩
  obtain ⟨RB, hRB⟩ : ∃ r, r = ({ evlR with state := .busy } : ALoop) := ⟨_, rfl⟩
  rw [← hRB]
  refine SW.runD tok mixed hO (by rfl) (by cbv <;> rfl) (by trivial) ?_
  refine AnyE.callP hof (by cbv <;> rfl) (by cbv <;> rfl) ?_
  refine AnyE.run tok hO (by rfl) (by cbv <;> rfl) (by trivial) ?_
  refine AnyE.effK tok hO (by cbv <;> rfl) (by cbv <;> rfl) (by trivial) ?_ ?_
  · exact (by repeat (first | exact trivial | refine And.intro (by first | exact lv_of hO (by cbv <;> rfl) (by trivial) | (cbv <;> rfl)) ?_))
  refine AnyE.run tok hO (by rfl) (by cbv <;> rfl) (by trivial) ?_
  refine AnyE.appNil tok (by cbv <;> rfl) (by cbv <;> rfl) (by rfl) (by kernel_rfl) (by rfl) (by rfl) ?_
  refine AnyE.run tok hO (by rfl) (by cbv <;> rfl) (by trivial) ?_
  refine AnyE.eff tok hO (by cbv <;> rfl) (by cbv <;> rfl) (by trivial) ?_
  refine AnyE.done (by rfl) ?_
  refine ⟨RB, rfl, rfl, ?_⟩
  subst hRB
  rfl
set_option maxHeartbeats 8000000 in
theorem ev_round1 (g : FuncId) (nw nl : Nat) (f0 f1 f2 f3 : Nat → Int) (z4 z5 z6 z7 : Int) (u : Int) (hof : Pure Try.prog g [.agg [intsV nw false f0, intsV nl false f1, intsV nw false f2, intsV nw false f3, iV z4, iV z5, iV z6, iV z7]] (iV u)) (Y : AV) (m : Nat) (hm : m < 100000) (fl : Nat → Int) (G : List AV) (hG : G = flatG 1 (intC fl) (m + 1)) :
    YieldW Try.prog 5 [.agg [intsV nw false f0, intsV nl false f1, intsV nw false f2, intsV nw false f3, iV z4, iV z5, iV z6, iV z7]] ⟨(7, .cells none false [intsV nw false f0, intsV nl false f1, intsV nw false f2, intsV nw false f3, iV z4, iV z5, iV z6, iV z7]) :: evlH g Y (.sl 6 0 (m + 1) 1 false) ++ [(6, .cells none false G)], 8⟩
      (fun v st' => v = .lit (.bool true) ∧ ∃ o8, st' = ⟨(10, .cells (some 6) false (G ++ [iV u])) :: (9, .cells none false [iV u]) :: (8, .cells none false [intsV nw false f0, intsV nl false f1, intsV nw false f2, intsV nw false f3, iV z4, iV z5, iV z6, iV z7]) :: (7, .cells none false [intsV nw false f0, intsV nl false f1, intsV nw false f2, intsV nw false f3, iV z4, iV z5, iV z6, iV z7]) :: evlH g Y (.sl 10 0 (m + 1 + 1) 1 false) ++ [(6, o8)], 11⟩) := by
  obtain ⟨O, hO⟩ : ∃ O : Ar, O = std := ⟨_, rfl⟩
  refine YieldW.of_round (r := evlR) rfl rfl ?_
  refine SW.run tok hO (by cbv <;> rfl) (by trivial) ?_
  refine ⟨evlR, rfl, rfl, SW.block ?_⟩
  obtain ⟨RB, hRB⟩ : ∃ r, r = ({ evlR with state := .busy } : ALoop) := ⟨_, rfl⟩
  rw [← hRB]
  refine SW.runD tok mixed hO (by rfl) (by cbv <;> rfl) (by trivial) ?_
  refine AnyE.callP hof (by cbv <;> rfl) (by cbv <;> rfl) ?_
  refine AnyE.run tok hO (by rfl) (by cbv <;> rfl) (by trivial) ?_
  refine AnyE.effK tok hO (by cbv <;> rfl) (by cbv <;> rfl) (by trivial) ?_ ?_
  · exact (by repeat (first | exact trivial | refine And.intro (by first | exact lv_of hO (by cbv <;> rfl) (by trivial) | (cbv <;> rfl)) ?_))
  refine AnyE.run tok hO (by rfl) (by cbv <;> rfl) (by trivial) ?_
  refine AnyE.appOne (g := intC fl) (len := m + 1) tok (by cbv <;> rfl) (by cbv <;> rfl) (by rfl) (by rfl) hG (by kernel_rfl) (by rfl) (by rfl) (by omega) fun G' hG' => ?_
  refine AnyE.run tok hO (by rfl) (by cbv <;> rfl) (by trivial) ?_
  refine AnyE.eff tok hO (by cbv <;> rfl) (by cbv <;> rfl) (by trivial) ?_
  refine AnyE.done (by rfl) ?_
  rw [← hG] at hG'
  subst hG'
  subst hRB
  exact ⟨_, rfl, rfl, _, rfl⟩
theorem evlR_ren (m : Nat) : RenO (ren1 6 m) 7 (.loop evlR) (.loop evlR) :=
  .loop rfl rfl rfl rfl rfl rfl (by show 4 < 7; omega) rfl (RenV.getT (l := evlT) ⟨RenV.ptr (by omega), RenV.ptr (by omega), RenV.ptr (by omega), RenV.fn .nil (.cons (RenV.ptr (by omega)) .nil), trivial⟩)
theorem outX_below (nw nl : Nat) (A B C D : Nat → Nat → Int) (a b c e : Nat → Int) (L : Nat) : Below 0 (.isl L 8 false (outX nw nl A B C D a b c e)) := Below.isl fun i k _ _ => by
  unfold outX
  split <;> first | exact intsV_below _ _ _ | exact Below.lit
set_option maxHeartbeats 16000000 in
theorem values100 (g : FuncId) (nw nl : Nat) (A B C D : Nat → Nat → Int) (a b c e : Nat → Int) (L : Nat) (hL : L < 100000) (V : Nat → Int)
    (hof : ∀ i, i < L → Pure Try.prog g [.agg [intsV nw false (A i), intsV nl false (B i), intsV nw false (C i), intsV nw false (D i), iV (a i), iV (b i), iV (c i), iV (e i)]] (iV (V i))) (K : AV → St → Prop)
    (hK : K (.tup []) ⟨evlH g (.isl L 8 false (outX nw nl A B C D a b c e)) (slG 6 1 L) ++ objG 6 1 (intC V) L, 7⟩) :
    CallW Try.prog 100 [.yld 5, .ptr 0 0] ⟨evlH g (.isl L 8 false (outX nw nl A B C D a b c e)) nl3, 6⟩ K := by
  obtain ⟨O, hO⟩ : ∃ O : Ar, O = std := ⟨_, rfl⟩
  have hnat : ∀ i : Nat, O.nat (Int.ofNat i) = i := fun i => by subst hO; rfl
  have hGb := outX_below nw nl A B C D a b c e L
  refine callW_of_body tok Try.func100 rfl ?_
  refine SW.seqRun tok hO (by cbv <;> rfl) (by trivial) ?_
  refine (SW.block (SW.loopR (fun i : Nat => ⟨⟨16, getT [(0, .yld 5), (1, .ptr 0 0), (5, .isl L 8 false (outX nw nl A B C D a b c e)), (6, iV L), (7, iV i)]⟩, []⟩) (fun i => ⟨evlH g (.isl L 8 false (outX nw nl A B C D a b c e)) (slG 6 1 i) ++ objG 6 1 (intC V) i, 7⟩)
    (fun i => L - i) (fun i => i ≤ L) 0 (Nat.zero_le _) (ren1 6 6) ?_ fun i hi => ?_))
  · exact WeakR.up rfl rfl (by simp) (Nat.le_refl _) (.inl rfl) (by show 6 ≤ 7; omega) ⟨RenV.yld (by omega), RenV.ptr (by omega), RenV.closed hGb, RenV.closed Below.lit, RenV.closed Below.lit, trivial⟩
      ⟨⟨by omega, _, rfl, evlR_ren 6, .inr rfl⟩, ⟨by omega, _, rfl, .dfr, .inr rfl⟩, ⟨by omega, _, rfl, .cells (.cons (RenV.closed Below.lit) .nil), .inr rfl⟩, ⟨by omega, _, rfl, .cells (.cons (RenV.closed Below.lit) (.cons (RenV.closed Below.lit) .nil)), .inr rfl⟩,
        ⟨by omega, _, rfl, .cells (.cons (RenV.closed (Below.fn (fun _ h => nomatch h) (fun _ h => nomatch h))) .nil), .inr rfl⟩, ⟨by omega, _, rfl, .cells (.cons (RenV.closed hGb) .nil), .inr rfl⟩, trivial⟩ (fun p hp => by cases hp)
  cases i with
  | zero =>
    refine SW.seqRun tok hO (by cbv <;> rfl) (by trivial) ?_
    refine SW.seq (SW.condS (by cbv <;> rfl) (fun h => SW.skip ?_) (fun h => SW.exit ?_))
    · have hlt : 0 < L := by subst hO; simpa [std] using h
      have h0 : (0 : Int) ≤ Int.ofNat 0 := Int.natCast_nonneg 0
      have hof' := hof 0 hlt
      obtain ⟨u, hu⟩ : ∃ u, V 0 = u := ⟨_, rfl⟩
      rw [hu] at hof'
      have hr := ev_round0 g nw nl (A 0) (B 0) (C 0) (D 0) (a 0) (b 0) (c 0) (e 0) u hof' (.isl L 8 false (outX nw nl A B C D a b c e))
      have hev : ∀ f : Nat → Nat → Int, f 0 = f (O.nat (Int.ofNat 0)) := fun f => by rw [hnat]
      have hev1 : ∀ f : Nat → Int, f 0 = f (O.nat (Int.ofNat 0)) := fun f => by rw [hnat]
      rw [hev A, hev B, hev C, hev D, hev1 a, hev1 b, hev1 c, hev1 e] at hr
      refine SW.seq (SW.block ?_)
      refine SW.seqRun tok hO (by cbv <;> rfl) ?_ ?_
      · exact ⟨h0, Int.ofNat_lt.2 hlt⟩
      refine SW.seq (SW.runN tok hO 2 (by cbv <;> rfl) (by trivial) ?_)
      refine OpsW.apply (c := .yld 5) (by cbv <;> rfl) hr fun v st' hv => ?_
      obtain ⟨rfl, rfl⟩ := hv
      refine OpsW.run tok hO (by cbv <;> rfl) (by trivial) ?_
      refine SW.cond (t := false) (by cbv <;> rfl) (SW.skip ?_)
      refine SW.run tok hO (by cbv <;> rfl) (by trivial) ?_
      refine ⟨1, by omega, hlt, ren1 6 10, ?_⟩
      refine WeakR.up rfl rfl (by simp) (Nat.le_refl _) (.inr (by omega)) (by show 6 ≤ 7; omega) ⟨RenV.yld (by omega), RenV.ptr (by omega), RenV.closed hGb, RenV.closed Below.lit, RenV.inc hO (by omega), trivial⟩
        ⟨⟨by omega, _, rfl, evlR_ren 10, .inr rfl⟩, ⟨by omega, _, rfl, .dfr, .inr rfl⟩, ⟨by omega, _, rfl, .cells (.cons (RenV.sl (by omega)) .nil), .inr rfl⟩, ⟨by omega, _, rfl, .cells (.cons (RenV.closed Below.lit) (.cons (RenV.closed Below.lit) .nil)), .inr rfl⟩,
          ⟨by omega, _, rfl, .cells (.cons (RenV.closed (Below.fn (fun _ h => nomatch h) (fun _ h => nomatch h))) .nil), .inr rfl⟩, ⟨by omega, _, rfl, .cells (.cons (RenV.closed hGb) .nil), .inr rfl⟩, trivial⟩ (fun p hp => ?_)
      obtain rfl := objG_mem hp
      exact ⟨by omega, _, rfl, .cells (RenVs.of_eq (by rw [← hu]; rfl) (flatG_below (fun _ _ => Below.lit) _)), .inl rfl⟩
    · have hge : L = 0 := by
        have : L ≤ 0 := by subst hO; simpa [std] using h
        omega
      subst hge
      exact ⟨_, _, rfl, rfl, hK⟩
  | succ i =>
    obtain ⟨G, hG⟩ : ∃ G, G = flatG 1 (intC V) (i + 1) := ⟨_, rfl⟩
    show SW _ _ _ _ _ ⟨evlH g (.isl L 8 false (outX nw nl A B C D a b c e)) (.sl 6 0 (i + 1) 1 false) ++ [(6, .cells none false (flatG 1 (intC V) (i + 1)))], 7⟩
    rw [← hG]
    refine SW.seqRun tok hO (by cbv <;> rfl) (by trivial) ?_
    refine SW.seq (SW.condS (by cbv <;> rfl) (fun h => SW.skip ?_) (fun h => SW.exit ?_))
    · have hlt : i + 1 < L := by
        have : ((i + 1 : Nat) : Int) < (L : Int) := by subst hO; simpa [std] using h
        omega
      have h0 : (0 : Int) ≤ Int.ofNat (i + 1) := Int.natCast_nonneg (i + 1)
      have hof' := hof (i + 1) hlt
      obtain ⟨u, hu⟩ : ∃ u, V (i + 1) = u := ⟨_, rfl⟩
      rw [hu] at hof'
      have hr := ev_round1 g nw nl (A (i + 1)) (B (i + 1)) (C (i + 1)) (D (i + 1)) (a (i + 1)) (b (i + 1)) (c (i + 1)) (e (i + 1)) u hof' (.isl L 8 false (outX nw nl A B C D a b c e)) i (by omega) V G hG
      have hev : ∀ f : Nat → Nat → Int, f (i + 1) = f (O.nat (Int.ofNat (i + 1))) := fun f => by rw [hnat]
      have hev1 : ∀ f : Nat → Int, f (i + 1) = f (O.nat (Int.ofNat (i + 1))) := fun f => by rw [hnat]
      rw [hev A, hev B, hev C, hev D, hev1 a, hev1 b, hev1 c, hev1 e] at hr
      refine SW.seq (SW.block ?_)
      refine SW.seqRun tok hO (by cbv <;> rfl) ?_ ?_
      · exact ⟨h0, Int.ofNat_lt.2 hlt⟩
      refine SW.seq (SW.runN tok hO 2 (by cbv <;> rfl) (by trivial) ?_)
      refine OpsW.apply (c := .yld 5) (by cbv <;> rfl) hr fun v st' hv => ?_
      obtain ⟨rfl, o8, rfl⟩ := hv
      obtain ⟨G2, hG2⟩ : ∃ G2, G ++ [iV u] = G2 := ⟨_, rfl⟩
      rw [hG2]
      refine OpsW.run tok hO (by cbv <;> rfl) (by trivial) ?_
      refine SW.cond (t := false) (by cbv <;> rfl) (SW.skip ?_)
      refine SW.run tok hO (by cbv <;> rfl) (by trivial) ?_
      refine ⟨i + 1 + 1, by omega, hlt, ren1 6 10, ?_⟩
      refine WeakR.up rfl rfl (by simp) (Nat.le_refl _) (.inr (by omega)) (by show 6 ≤ 7; omega) ⟨RenV.yld (by omega), RenV.ptr (by omega), RenV.closed hGb, RenV.closed Below.lit, RenV.inc hO (by omega), trivial⟩
        ⟨⟨by omega, _, rfl, evlR_ren 10, .inr rfl⟩, ⟨by omega, _, rfl, .dfr, .inr rfl⟩, ⟨by omega, _, rfl, .cells (.cons (RenV.sl (by omega)) .nil), .inr rfl⟩, ⟨by omega, _, rfl, .cells (.cons (RenV.closed Below.lit) (.cons (RenV.closed Below.lit) .nil)), .inr rfl⟩,
          ⟨by omega, _, rfl, .cells (.cons (RenV.closed (Below.fn (fun _ h => nomatch h) (fun _ h => nomatch h))) .nil), .inr rfl⟩, ⟨by omega, _, rfl, .cells (.cons (RenV.closed hGb) .nil), .inr rfl⟩, trivial⟩ (fun p hp => ?_)
      obtain rfl := objG_mem hp
      exact ⟨by omega, _, rfl, .cells (RenVs.of_eq (by rw [← hG2, hG, ← hu]; rfl) (flatG_below (fun _ _ => Below.lit) _)), .inl rfl⟩
    · have hge : L = i + 1 := by
        have : (L : Int) ≤ ((i + 1 : Nat) : Int) := by subst hO; simpa [std] using h
        omega
      subst hge
      rw [hG]
      exact ⟨_, _, rfl, rfl, hK⟩
end Go.Fz
namespace Go.Fz
open Go.Proofs
set_option maxRecDepth 100000
section
variable (nw nl : Nat) (A B C D : Nat → Nat → Int) (a b c e : Nat → Int)
def setW (hand flat : Int) (x y z : AV) (L : Nat) : List AV := [iV hand, iV flat, x, y, z, .isl L 8 false (outX nw nl A B C D a b c e), .any]
theorem fvF_in (f0 fl : Nat → Int) (h : ∀ j, 0 ≤ f0 j ∧ f0 j ≤ 1000000) (j : Nat) : ∀ i, 0 ≤ fvF f0 fl i j ∧ fvF f0 fl i j ≤ 1000000
  | 0 => ⟨Int.le_refl _, by show (0 : Int) ≤ _; omega⟩
  | i + 1 => by
    show 0 ≤ (if fl i = (j : Int) then f0 j else fvF f0 fl i j) ∧ (if fl i = (j : Int) then f0 j else fvF f0 fl i j) ≤ 1000000
    split
    · exact h j
    · exact fvF_in f0 fl h j i
def fkOf (g : Nat → Int) (h : ∀ j, 0 ≤ g j ∧ g j ≤ 1000000) : FK := ⟨(g 0, g 1, g 2, g 3), by
  have h0 := h 0
  have h1 := h 1
  have h2 := h 2
  have h3 := h 3
  simp [inF, h0, h1, h2, h3]⟩
theorem fkOf_eq {g g' : Nat → Int} {h h'} : fkOf g h = fkOf g' h' ↔ ∀ m, m < 4 → g m = g' m := by
  unfold fkOf
  constructor
  · intro e m hm
    have e1 := congrArg Subtype.val e
    simp only [Prod.mk.injEq] at e1
    match m, hm with
    | 0, _ => exact e1.1
    | 1, _ => exact e1.2.1
    | 2, _ => exact e1.2.2.1
    | 3, _ => exact e1.2.2.2
  · intro e
    apply Subtype.ext
    simp only [Prod.mk.injEq]
    exact ⟨e 0 (by omega), e 1 (by omega), e 2 (by omega), e 3 (by omega)⟩
theorem putI_nodup {E : List ((FK × Int) × Nat)} {b : FK} {v : Int} {cl : Nat} (h : (E.map (·.1.1)).Nodup) : ((putI E b v cl).map (·.1.1)).Nodup := by
  unfold putI
  split
  · exact h
  · rename_i hn
    rw [List.map_append, List.nodup_append]
    refine ⟨h, by simp, fun x hx y hy => ?_⟩
    simp at hy
    subst hy
    exact fun e => hn (e ▸ hx)
theorem putI_mem {E : List ((FK × Int) × Nat)} {b : FK} {v : Int} {cl : Nat} {p : (FK × Int) × Nat} (h : p ∈ putI E b v cl) : p ∈ E ∨ p = ((b, v), cl) := by
  unfold putI at h
  split at h
  · exact .inl h
  · rcases List.mem_append.1 h with h | h
    · exact .inl h
    · exact .inr (List.mem_singleton.1 h)
theorem putI_key {E : List ((FK × Int) × Nat)} {b : FK} {v : Int} {cl : Nat} {k : FK} (h : k ∈ E.map (·.1.1) ∨ k = b) : k ∈ (putI E b v cl).map (·.1.1) := by
  unfold putI
  split
  · rename_i hn
    rcases h with h | rfl
    · exact h
    · exact hn
  · rw [List.map_append, List.mem_append]
    rcases h with h | rfl
    · exact .inl h
    · exact .inr (by simp)
theorem mapI_closed (E : List ((FK × Int) × Nat)) : ∀ x ∈ mapI fkV E, Below 0 x.1 ∧ Below 0 x.2.1 := fun x hx => by
  obtain ⟨p, _, rfl⟩ := List.mem_map.1 hx
  exact ⟨fkV_below _, Below.lit⟩
set_option maxHeartbeats 16000000 in
theorem settles_ok (hand flat : Int) (wn ln cn : Nat) (wg lg cg : Nat → Nat → AV) (hwg : Below 0 (.isl wn 2 false wg)) (hlg : Below 0 (.isl ln 3 false lg)) (hcg : Below 0 (.isl cn 4 false cg)) (L N : Nat) (fl : Nat → Int) (hL : L < 100000) (h4 : nw ≤ 4) (hN : N < 1000) (hfl : ∀ k, k < N → 0 ≤ fl k ∧ fl k < (nw : Int))
    (hA : ∀ i j, 0 ≤ A i j ∧ A i j ≤ 1000000) (R : Bool) (hR1 : (∀ i j, i < L → j < i → (∀ m, m < 4 → fvF (A i) fl N m = fvF (A j) fl N m) → c j = c i) → R = true) (hR0 : ∀ i j, i < L → j < i → (∀ m, m < 4 → fvF (A i) fl N m = fvF (A j) fl N m) → c j ≠ c i → R = false) :
    Pure Try.prog 75 [.agg (setW nw nl A B C D a b c e hand flat (.isl wn 2 false wg) (.isl ln 3 false lg) (.isl cn 4 false cg) L), intsV N false fl] (.lit (.bool R)) := by
  obtain ⟨O, hO⟩ : ∃ O : Ar, O = std := ⟨_, rfl⟩
  have hnat : ∀ i : Nat, O.nat (Int.ofNat i) = i := fun i => by subst hO; rfl
  refine pure_of_body tok 4 Try.func75 en75 rfl ⟨Below.agg (AllB.ok ⟨Below.lit, Below.lit, hwg, hlg, hcg, Below.isl fun i k _ _ => ?_, ?_, trivial⟩), intsV_below _ _ _, trivial⟩ Below.lit ?_
  · unfold outX; split <;> first | exact intsV_below _ _ _ | exact Below.lit
  · exact Below.any
  refine SW.seqRun tok hO (by cbv <;> rfl) (by trivial) ?_
  refine SW.seq (SW.runN tok hO 0 (by cbv <;> rfl) (by trivial) ?_)
  refine OpsW.mkMap (by cbv <;> rfl) ?_
  refine OpsW.run tok hO (by cbv <;> rfl) (by trivial) ?_
  refine SW.seq ?_
  refine SW.seqRun tok hO (by cbv <;> rfl) (by trivial) ?_
  have hin := fun i => fvF_in (A i) fl (hA i)
  obtain ⟨key, hkey⟩ : ∃ key : Nat → FK, key = fun i => fkOf (fvF (A i) fl N) fun j => hin i j N := ⟨_, rfl⟩
  have hkeq : ∀ i j, key i = key j ↔ ∀ m, m < 4 → fvF (A i) fl N m = fvF (A j) fl N m := fun i j => by rw [hkey]; exact fkOf_eq
  obtain ⟨W0, hW0⟩ : ∃ W0 : List AV, W0 = setW nw nl A B C D a b c e hand flat (.isl wn 2 false wg) (.isl ln 3 false lg) (.isl cn 4 false cg) L := ⟨_, rfl⟩
  refine (SW.block (SW.loopR (fun x : Nat × List ((FK × Int) × Nat) × Nat => ⟨⟨43, getT [(1, intsV N false fl), (2, .ptr 0 0), (5, .mp 1), (13, .isl L 8 false (outX nw nl A B C D a b c e)), (14, iV L), (15, iV x.1)]⟩, []⟩) (fun x => ⟨[(1, .map (mapI fkV x.2.1) x.2.2)], 2⟩) (fun x => L - x.1)
    (fun x => x.1 ≤ L ∧ (x.2.1.map (·.1.1)).Nodup ∧ (∀ p ∈ x.2.1, ∃ k, k < x.1 ∧ p.1.1 = key k ∧ p.1.2 = c k) ∧ (∀ k, k < x.1 → key k ∈ x.2.1.map (·.1.1)) ∧ ∀ i j, i < x.1 → j < i → (∀ m, m < 4 → fvF (A i) fl N m = fvF (A j) fl N m) → c j = c i) (0, [], 0)
    ⟨Nat.zero_le _, List.nodup_nil, (fun _ h => nomatch h), (fun k hk => absurd hk (Nat.not_lt_zero k)), fun i _ hi => absurd hi (Nat.not_lt_zero i)⟩ (tabR []) ?_ fun x hx => ?_))
  · exact WeakR.tab rfl rfl (by simp) (by rfl) (Nat.le_refl _) (by rfl) ⟨RenV.closed (intsV_below _ _ _), RenV.ptr (by omega), RenV.mp (by omega), RenV.closed (outX_below _ _ _ _ _ _ _ _ _ _ _), RenV.closed Below.lit, RenV.closed Below.lit, trivial⟩ ⟨⟨by omega, _, rfl, .map (fun _ h => nomatch h), rfl⟩, trivial⟩
  obtain ⟨i, E, cl⟩ := x
  obtain ⟨hi, hnd, hE1, hE2, hall⟩ := hx
  simp only at hi hnd hE1 hE2 hall ⊢
  obtain ⟨ME, hME⟩ : ∃ m, mapI fkV E = m := ⟨_, rfl⟩
  rw [hME]
  refine SW.seqRun tok hO (by cbv <;> rfl) (by trivial) ?_
  refine SW.seq (SW.condS (by cbv <;> rfl) (fun h => SW.skip ?_) (fun h => SW.exit ?_))
  rotate_left
  · have hge : L ≤ i := by subst hO; simpa [std] using h
    have hiL : i = L := by omega
    rw [hR1 (fun i' j h1 h2 h3 => hall i' j (by omega) h2 h3)]
    refine SW.seqRun tok hO (by cbv <;> rfl) (by trivial) ?_
    exact SW.ret ⟨_, _, rfl, rfl, Eqv.of rfl⟩
  · have hlt : i < L := by subst hO; simpa [std] using h
    have hi0 : (0 : Int) ≤ Int.ofNat i := Int.natCast_nonneg i
    refine SW.seq (SW.block ?_)
    refine SW.seqRun tok hO (by cbv <;> rfl) ?_ ?_
    · exact ⟨hi0, Int.ofNat_lt.2 hlt⟩
    have hf := feelsOf_ok nw N false false false nl (A (O.nat (Int.ofNat i))) (B (O.nat (Int.ofNat i))) fl h4 hN hfl
    obtain ⟨g, hg⟩ : ∃ g, fvF (A (O.nat (Int.ofNat i))) fl N = g := ⟨_, rfl⟩
    rw [hg] at hf
    refine SW.seqRun tok hO (by cbv <;> rfl) (by trivial) ?_
    refine OpsW.callP hf (by cbv <;> rfl) ?_
    refine OpsW.run tok hO (by cbv <;> rfl) (by trivial) ?_
    have hgi : g = fvF (A i) fl N := by rw [← hg, hnat]
    have hkv : fkV (key i) = .agg [iV (g 0), iV (g 1), iV (g 2), iV (g 3)] := by rw [hkey, hgi]; rfl
    refine SW.seq ?_
    refine SW.seq (SW.runN tok hO 2 (by cbv <;> rfl) (by trivial) ?_)
    refine OpsW.mapLookI tok keyed167 fkKey (key i) hnd (by cbv <;> rfl) (by rw [hkv]; exact Eqv.refl _) (by kernel_rfl) zeroI3 (show _ = some (AObj.map (mapI fkV E) cl) by rw [hME]; rfl) (fun hno => ?_) (fun p hp hpk => ?_)
    · refine OpsW.run tok hO (by cbv <;> rfl) (by trivial) ?_
      refine SW.seqRun tok hO (by cbv <;> rfl) (by trivial) ?_
      refine SW.cond (t := false) (by cbv <;> rfl) (SW.skip ?_)
      have hfresh : ∀ j, j < i → key j ≠ key i := fun j hj e => by
        obtain ⟨p, hp, hpk⟩ := List.mem_map.1 (hE2 j hj)
        exact hno p hp (hpk.trans e)
      refine SW.runN tok hO 5 (by cbv <;> rfl) (by trivial) ?_
      refine OpsW.mapUpdI (E := E) (b := key i) (v := c (O.nat (Int.ofNat i))) tok keyed167 fkKey (fun p hp hpk => absurd hpk (hno p hp)) (by rw [hkv]; cbv <;> rfl) (by kernel_rfl) (show _ = some (AObj.map (mapI fkV E) cl) by rw [hME]; rfl) ?_
      have hv2 : c (O.nat (Int.ofNat i)) = c i := by rw [hnat]
      rw [hv2]
      obtain ⟨ME2, hME2⟩ : ∃ m, mapI fkV (putI E (key i) (c i) cl) = m := ⟨_, rfl⟩
      obtain ⟨cl2, hcl2⟩ : ∃ m, putC E (key i) cl = m := ⟨_, rfl⟩
      rw [hME2, hcl2]
      refine OpsW.nil ?_
      refine SW.run tok hO (by cbv <;> rfl) (by trivial) ?_
      refine ⟨(i + 1, putI E (key i) (c i) cl, cl2), by show L - (i + 1) < L - i; omega, ⟨by show i + 1 ≤ L; omega, putI_nodup hnd, fun p hp => ?_, fun k hk => ?_, fun i' j h1 h2 h3 => ?_⟩, tabR [], ?_⟩
      · rcases putI_mem hp with hp | rfl
        · obtain ⟨k, k1, k2, k3⟩ := hE1 p hp
          exact ⟨k, by show k < i + 1; omega, k2, k3⟩
        · exact ⟨i, by show i < i + 1; omega, rfl, rfl⟩
      · refine putI_key ?_
        rcases Nat.lt_or_ge k i with h5 | h5
        · exact .inl (hE2 k h5)
        · exact .inr (by rw [show k = i from by have : k < i + 1 := hk; omega])
      · have h1' : i' < i + 1 := h1
        rcases Nat.lt_or_ge i' i with h5 | h5
        · exact hall i' j h5 h2 h3
        · obtain rfl : i' = i := by omega
          exact absurd ((hkeq i' j).2 h3).symm (hfresh j h2)
      · show WeakR _ _ _ _ ⟨⟨43, getT [(1, intsV N false fl), (2, .ptr 0 0), (5, .mp 1), (13, .isl L 8 false (outX nw nl A B C D a b c e)), (14, iV L), (15, iV (i + 1 : Nat))]⟩, []⟩ ⟨[(1, .map (mapI fkV (putI E (key i) (c i) cl)) cl2)], 2⟩
        have hcl := mapI_closed (putI E (key i) (c i) cl)
        rw [hME2] at hcl ⊢
        exact WeakR.tab rfl rfl (by simp) (by rfl) (Nat.le_refl _) (by rfl) ⟨RenV.closed (intsV_below _ _ _), RenV.ptr (by omega), RenV.mp (by omega), RenV.closed (outX_below _ _ _ _ _ _ _ _ _ _ _), RenV.closed Below.lit, RenV.inc hO (by omega), trivial⟩ ⟨⟨by omega, _, rfl, .map hcl, rfl⟩, trivial⟩
    · obtain ⟨pv, hpv⟩ : ∃ pv, p.1.2 = pv := ⟨_, rfl⟩
      rw [hpv]
      have hv2 : c (O.nat (Int.ofNat i)) = c i := by rw [hnat]
      obtain ⟨k0, hk0, hpk0, hpv0⟩ := hE1 p hp
      refine OpsW.run tok hO (by cbv <;> rfl) (by trivial) ?_
      refine SW.seqRun tok hO (by cbv <;> rfl) (by trivial) ?_
      refine SW.condS (by cbv <;> rfl) (fun h6 => ?_) (fun h6 => SW.skip ?_)
      · have hne : pv ≠ c (O.nat (Int.ofNat i)) := by subst hO; simpa [std] using h6
        rw [hv2] at hne
        rw [hR0 i k0 hlt hk0 ((hkeq i k0).1 (hpk.symm.trans hpk0)) (by rw [← hpv0, hpv]; exact hne)]
        refine SW.seqRun tok hO (by cbv <;> rfl) (by trivial) ?_
        exact SW.ret ⟨_, _, rfl, rfl, Eqv.of rfl⟩
      have heq : pv = c i := by
        rw [← hv2]; subst hO; simpa [std] using h6
      have hsame : ∀ j, j < i → key j = key i → c j = c i := fun j hj e => by
        have e2 : key j = key k0 := e.trans (hpk.symm.trans hpk0)
        have e3 : c k0 = c i := by rw [← hpv0, hpv]; exact heq
        rcases Nat.lt_trichotomy j k0 with h7 | h7 | h7
        · rw [hall k0 j hk0 h7 ((hkeq k0 j).1 e2.symm)]; exact e3
        · rw [h7]; exact e3
        · rw [← hall j k0 hj h7 ((hkeq j k0).1 e2)]; exact e3
      refine SW.runN tok hO 5 (by cbv <;> rfl) (by trivial) ?_
      refine OpsW.mapUpdI (E := E) (b := key i) (v := c (O.nat (Int.ofNat i))) tok keyed167 fkKey (fun q hq hqk => by rw [nodup_val hnd hq hp (hqk.trans hpk.symm), hpv, heq, hv2]) (by rw [hkv]; cbv <;> rfl) (by kernel_rfl) (show _ = some (AObj.map (mapI fkV E) cl) by rw [hME]; rfl) ?_
      rw [hv2]
      obtain ⟨ME2, hME2⟩ : ∃ m, mapI fkV (putI E (key i) (c i) cl) = m := ⟨_, rfl⟩
      obtain ⟨cl2, hcl2⟩ : ∃ m, putC E (key i) cl = m := ⟨_, rfl⟩
      rw [hME2, hcl2]
      refine OpsW.nil ?_
      refine SW.run tok hO (by cbv <;> rfl) (by trivial) ?_
      refine ⟨(i + 1, putI E (key i) (c i) cl, cl2), by show L - (i + 1) < L - i; omega, ⟨by show i + 1 ≤ L; omega, putI_nodup hnd, fun p hp => ?_, fun k hk => ?_, fun i' j h1 h2 h3 => ?_⟩, tabR [], ?_⟩
      · rcases putI_mem hp with hp | rfl
        · obtain ⟨k, k1, k2, k3⟩ := hE1 p hp
          exact ⟨k, by show k < i + 1; omega, k2, k3⟩
        · exact ⟨i, by show i < i + 1; omega, rfl, rfl⟩
      · refine putI_key ?_
        rcases Nat.lt_or_ge k i with h5 | h5
        · exact .inl (hE2 k h5)
        · exact .inr (by rw [show k = i from by have : k < i + 1 := hk; omega])
      · have h1' : i' < i + 1 := h1
        rcases Nat.lt_or_ge i' i with h5 | h5
        · exact hall i' j h5 h2 h3
        · obtain rfl : i' = i := by omega
          exact hsame j h2 ((hkeq i' j).2 h3).symm
      · show WeakR _ _ _ _ ⟨⟨43, getT [(1, intsV N false fl), (2, .ptr 0 0), (5, .mp 1), (13, .isl L 8 false (outX nw nl A B C D a b c e)), (14, iV L), (15, iV (i + 1 : Nat))]⟩, []⟩ ⟨[(1, .map (mapI fkV (putI E (key i) (c i) cl)) cl2)], 2⟩
        have hcl := mapI_closed (putI E (key i) (c i) cl)
        rw [hME2] at hcl ⊢
        exact WeakR.tab rfl rfl (by simp) (by rfl) (Nat.le_refl _) (by rfl) ⟨RenV.closed (intsV_below _ _ _), RenV.ptr (by omega), RenV.mp (by omega), RenV.closed (outX_below _ _ _ _ _ _ _ _ _ _ _), RenV.closed Below.lit, RenV.inc hO (by omega), trivial⟩ ⟨⟨by omega, _, rfl, .map hcl, rfl⟩, trivial⟩
end
end Go.Fz
namespace Go.Fz
open Go.Proofs
set_option maxRecDepth 100000
section
variable {P : Program} {T : Ti}
theorem OpsW.pre {rd : Option Nat} {ops : Array Oper} {l : List Nat} {K : Fm → St → Prop} {f f2 : Fm} {st st2 : St} (hw : Weak st.n f st f2 st2) (h : OpsW P rd ops l K f2 st2) : OpsW P rd ops l K f st := by
  intro φ w a n Q h1 h2 h3 hq
  obtain ⟨k1, k2, k3⟩ := hw.ok h2 h3
  have hn : st2.n = st.n := Nat.le_antisymm hw.hi hw.lo
  have hsame : cutN φ st2.n = φ := by cases φ; simp only [cutN, hn, ← h2.n]
  rw [hsame] at k1 k2 k3
  exact h φ w a n Q h1 k1 k2 fun a' w' hl => hq a' w' (hl.trans (Ext.refl _) k3)
theorem OpsW.sub {rd : Option Nat} {ops : Array Oper} {l : List Nat} {K : Fm → St → Prop} {f : Fm} {h1 h2 : Hp} {n : Nat} (hd : f.dm = []) (hs : ∀ id o, h2.get id = some o → h1.get id = some o ∧ id < n) (h : OpsW P rd ops l K f ⟨h2, n⟩) : OpsW P rd ops l K f ⟨h1, n⟩ :=
  OpsW.pre (f2 := f) (st2 := ⟨h2, n⟩) ⟨rfl, rfl, fun id hid => (by rw [hd] at hid; cases hid), fun i => .inr ⟨rfl, .inl rfl⟩, Nat.le_refl _, Nat.le_refl _, fun id o ho => ⟨(hs id o ho).1, (hs id o ho).2, .inl rfl⟩⟩ h
def ldAt (ops : Array Oper) (i : Nat) (f : Fm) : Option (TypeId × AV) := match ops[i]? with
  | none => none
  | some o => match wantA ops f.ts o with
    | some true => match o.op with
      | .load t p => some (t, Operand.av f.ts p)
      | _ => none
    | _ => none
theorem OpsW.ldI (hT : TOk P T) {rd : Option Nat} {ops : Array Oper} {K : Fm → St → Prop} {f : Fm} {st : St} {i : Nat} {l : List Nat} {t : TypeId} {p r : AV} (hx : ldAt ops i f = some (t, p)) (hr : loadA T st.h t p = some r)
    (h : OpsW P rd ops l K (putAt ops i f r) st) : OpsW P rd ops (i :: l) K f st := by
  unfold ldAt at hx
  split at hx
  · cases hx
  · rename_i o ho
    split at hx
    · rename_i hw
      split at hx
      · rename_i t' p' hop
        simp only [Option.some.injEq, Prod.mk.injEq] at hx
        obtain ⟨rfl, rfl⟩ := hx
        have hput : ∀ v, putAt ops i f v = f.put o.dst v := fun v => by simp [putAt, ho]
        rw [hput] at h
        refine OpsW.light hT ho hw ?_ h
        simp only [evG, evL, hop, hr]
      · cases hx
    · cases hx
theorem OpsW.cutU (hT : TOk P T) {rd : Option Nat} {ops : Array Oper} {K : Fm → St → Prop} {f : Fm} {st : St} {i : Nat} {l : List Nat} {t id off len sz u : Nat} {ex : Bool} {b : Int}
    (hx : sliAt ops i f = some (t, .sl id off len sz ex, none, some (.lit (.int .i64 b)))) (hu : b = Int.ofNat u) (hb : sliceB T t sz = true) (hle : u ≤ len)
    (h : OpsW P rd ops l K (putAt ops i f (.sl id off u sz (ex && u == len))) st) : OpsW P rd ops (i :: l) K f st := by
  obtain ⟨ti, tj, e, h1, h2, h3, h4, h5, h6, h7, h8⟩ := sliceB_ok hb
  subst hu
  unfold sliAt at hx
  split at hx
  · cases hx
  · rename_i o ho
    split at hx
    · rename_i hw
      split at hx
      · rename_i t' x lo' hi' hop
        simp only [Option.some.injEq, Prod.mk.injEq] at hx
        obtain ⟨rfl, k2, k3, k4⟩ := hx
        have hput : ∀ v, putAt ops i f v = f.put o.dst v := fun v => by simp [putAt, ho]
        rw [hput] at h
        have h0 : natOr 0 (none : Option AV) = some 0 := rfl
        refine OpsW.light hT ho hw ?_ h
        simp only [evG, hop, sliceA, k2, h1, h2, h3, h4, k3, k4, h0, natOr_lo, if_true, Option.map_none]
        rw [if_pos ⟨Nat.zero_le _, hle, .inl trivial⟩]
        simp
      · cases hx
    · cases hx
theorem OpsW.mkCap (hT : TOk P T) {rd : Option Nat} {ops : Array Oper} {K : Fm → St → Prop} {f : Fm} {st : St} {i : Nat} {l : List Nat} {t N : Nat} {b : Int} (hx : mkAt ops i f = some (t, .lit (.int .i64 0), .lit (.int .i64 b))) (hbN : b = Int.ofNat N) (hb : intsB T t = true) (hN : N ≤ 65536)
    (h : OpsW P rd ops l K (putAt ops i f (.sl st.n 0 0 1 (Nat.beq N 0))) (st.push (.cells none false (flatG 1 (intC fun _ => 0) N)))) : OpsW P rd ops (i :: l) K f st := by
  subst hbN
  unfold mkAt at hx
  split at hx
  · cases hx
  · rename_i o ho
    split at hx
    · rename_i hw
      split at hx
      · rename_i t' a b hop
        simp only [Option.some.injEq, Prod.mk.injEq] at hx
        obtain ⟨rfl, e2, e3⟩ := hx
        have hput : ∀ v, putAt ops i f v = f.put o.dst v := fun v => by simp [putAt, ho]
        rw [hput] at h
        unfold intsB at hb
        split at hb
        · rename_i ti hti
          split at hb
          · rename_i e he
            split at hb
            · rename_i j hj
              simp only [Bool.and_eq_true] at hb
              obtain ⟨⟨b1, b2⟩, b3⟩ := hb
              have hz : j.zero = [.int .i64 0] := by
                split at b3
                · assumption
                · cases b3
              have hs := Nat.eq_of_beq_eq_true b1
              refine OpsW.fresh hT ho hw ?_ h
              simp only [evF, hop, e2, e3, hti, he, hj]
              have h0 : (0 : Int) ≤ Int.ofNat N := Int.natCast_nonneg N
              rw [if_pos ⟨Int.le_refl _, h0, Int.ofNat_le.2 hN, Nat.le_of_ble_eq_true b2, by omega, by rw [hz, hs]; rfl⟩, hs]
              have hbe : ((0 : Int) == Int.ofNat N) = Nat.beq N 0 := by
                cases N with
                | zero => rfl
                | succ k => rfl
              show some (AV.sl st.n 0 0 1 ((0 : Int) == Int.ofNat N), zerosA j (N * 1)) = _
              rw [zeros_flat hz, hbe]
            · cases hb
          · cases hb
        · cases hb
      · cases hx
    · cases hx
end
theorem load_int {h : Hp} {id : Nat} {fm : Option Nat} {ro : Bool} {v : Int} (hg : h.get id = some (.cells fm ro [iV v])) : loadA T h 3 (.ptr id 0) = some (iV v) := by
  simp only [loadA, ptrOf, cellsAt, hg]
  rfl
def risE (many : Nat) : Nat → List Nat → Nat → List (List Nat)
  | 0, p, _ => [p]
  | m + 1, p, s => (List.range (many - m - s)).flatMap fun c => risE many m (p ++ [s + c]) (s + c + 1)
def risL (many : Nat) : List (List Nat) := (List.range (many + 1)).flatMap fun m => risE many m [] 0
def lsV (p : List Nat) : AV := intsV p.length false fun i => ((p.getD i 0 : Nat) : Int)
theorem lsV_below (p : List Nat) : Below 0 (lsV p) := intsV_below _ _ _
def extV (mc : Nat) : AV := .fn (.func 102) [] [.ptr 49 0, .ptr 51 0, .ptr mc 0, .ptr 52 0]
def rsH (mc y : Nat) (lv : AV) (q : Nat) (fm : Option Nat) (G : List AV) (h : Hp) : Hp := (52, .cells none false [extV mc]) :: (51, .cells none false [lv]) :: (49, .cells none false [.yld y]) :: (q, .cells fm false G) :: h
def rsS (mc y : Nat) (ex : Bool) (p : List Nat) (h : Hp) (n : Nat) (st : St) : Prop := ∃ q fm fl N, 50 ≤ q ∧ q ≠ 51 ∧ q ≠ 52 ∧ q < n ∧ p.length ≤ N ∧ (∀ i, i < p.length → fl i = ((p.getD i 0 : Nat) : Int)) ∧ st = ⟨rsH mc y (.sl q 0 p.length 1 ex) q fm (flatG 1 (intC fl) N) h, n⟩
def rsQ (K : List (List Nat) → Hp → Nat → Prop) (stop : List (List Nat) → List Nat → Hp → Nat → Prop) (mc y : Nat) (ex : Bool) (seen : List (List Nat)) (p : List Nat) (E : List (List Nat)) (v : AV) (st' : St) : Prop :=
  (v = .lit (.bool true) ∧ ∃ h n, rsS mc y ex p h n st' ∧ K (seen ++ E) h n) ∨ (v = .lit (.bool false) ∧ ∃ pre l post h n, E = pre ++ l :: post ∧ rsS mc y ex p h n st' ∧ stop (seen ++ pre) l h n)
def rsI (mc many : Nat) (h : Hp) (n : Nat) : Prop := 53 ≤ n ∧ (∀ x ∈ h, x.1 < 49 ∧ x.2.fam = none) ∧ ∃ fm ro, h.get mc = some (.cells fm ro [iV (many : Int)])
theorem rs_get {mc y : Nat} {lv : AV} {q : Nat} {fm : Option Nat} {G : List AV} {h : Hp} (h1 : 50 ≤ q) (h2 : q ≠ 51) (h3 : q ≠ 52) : (rsH mc y lv q fm G h).get q = some (.cells fm false G) := by
  unfold rsH
  simp only [Hp.get]
  rw [if_neg (by omega), if_neg (by omega), if_neg (by omega), if_pos trivial]
theorem rs_mc {mc y : Nat} {lv : AV} {q : Nat} {fm : Option Nat} {G : List AV} {h : Hp} (h1 : 50 ≤ q) (h2 : mc < 49) : (rsH mc y lv q fm G h).get mc = h.get mc := by
  unfold rsH
  simp only [Hp.get]
  rw [if_neg (by omega), if_neg (by omega), if_neg (by omega), if_neg (by omega)]
theorem take_snoc (fl : Nat → Int) (N L : Nat) (h : L ≤ N) (v : Int) : (flatG 1 (intC fl) N).take L ++ [iV v] = flatG 1 (intC (setI fl L v)) (L + 1) := by
  have h1 := flatG_part fl N 0 L (by omega)
  rw [List.drop_zero] at h1
  rw [h1]
  have h2 : flatG 1 (intC (setI fl L v)) L = flatG 1 (intC fun i => fl (0 + i)) L := flatG_congr fun i k hi => by
    show iV (setI fl L v i) = iV (fl (0 + i))
    rw [setI_ne (by omega), Nat.zero_add]
  show _ = flatG 1 (intC (setI fl L v)) L ++ [iV (setI fl L v L)]
  rw [h2, setI_self]
theorem app_rs {mc y t L q n : Nat} {lv : AV} {fm : Option Nat} {fl : Nat → Int} {N : Nat} {h : Hp} {v : Int} {ex : Bool} (hb : sliceB T t 1 = true) (h1 : 50 ≤ q) (h2 : q ≠ 51) (h3 : q ≠ 52) (hq : q < n) (hL : L ≤ N) (hL2 : L < 1000) (hh : ∀ x ∈ h, x.1 < 49 ∧ x.2.fam = none) (hn : 53 ≤ n) :
    ∃ h2, appendA T ⟨(n, .cells none false [iV v]) :: rsH mc y lv q fm (flatG 1 (intC fl) N) h, n + 1⟩ t t (.sl q 0 L 1 false) (.sl n 0 1 1 ex) = some (.sl (n + 1) 0 (L + 1) 1 false, ⟨h2, n + 1 + 1⟩) ∧
      ∀ id o, (rsH mc y lv (n + 1) (some (fm.getD q)) (flatG 1 (intC (setI fl L v)) (L + 1)) h).get id = some o → h2.get id = some o ∧ id < n + 1 + 1 := by
  obtain ⟨i, j, e, ht, hd, he, hz, h5, hb, hb0, hzl⟩ := sliceB_ok hb
  have hgq : Hp.get ((n, AObj.cells none false [iV v]) :: rsH mc y lv q fm (flatG 1 (intC fl) N) h) q = some (.cells fm false (flatG 1 (intC fl) N)) := by
    simp only [Hp.get]
    rw [if_neg (by omega)]
    exact rs_get h1 h2 h3
  have hgn : Hp.get ((n, AObj.cells none false [iV v]) :: rsH mc y lv q fm (flatG 1 (intC fl) N) h) n = some (.cells none false [iV v]) := by
    simp only [Hp.get]
    rw [if_pos trivial]
  have hlen : (flatG 1 (intC fl) N).length = N := by rw [flatG_length, Nat.mul_one]
  refine ⟨(n + 1, .cells (some (fm.getD q)) false (flatG 1 (intC (setI fl L v)) (L + 1))) :: truncH (fm.getD q) (L * 1) q ((n, AObj.cells none false [iV v]) :: rsH mc y lv q fm (flatG 1 (intC fl) N) h), ?_, fun id o ho => ?_⟩
  · unfold appendA
    simp only [ht, hd, he, slCells, cellsAt, hgq, hgn, slLen, hz]
    rw [if_pos (show True ∧ 0 + L * 1 ≤ (flatG 1 (intC fl) N).length from ⟨trivial, by rw [hlen]; omega⟩), if_pos ⟨trivial, by simp⟩]
    simp only [Nat.mul_one, List.drop_zero]
    rw [show List.take 1 [iV v] = [iV v] from rfl, take_snoc fl N L hL v, if_neg (by rw [show [iV v].all AV.one = true from rfl]; simp; omega), if_neg (by omega)]
    rfl
  · have hx := Hp.mem_of_get ho
    unfold rsH at ho hx
    have key : ∀ j x, (j = 52 ∨ j = 51 ∨ j = 49 ∨ j < 49) → x.fam = none → trunc1 (fm.getD q) (L * 1) (j == q) x = x := fun j x hj hx => by
      have hne : (j == q) = false := beq_eq_false_iff_ne.2 (by omega)
      rw [hne]
      cases x with
      | cells f' ro cs =>
        obtain rfl : f' = none := hx
        simp [trunc1]
      | loop r => rfl
      | dfr => rfl
      | map es clock => rfl
      | iter mid since seen last => rfl
    show Hp.get ((n + 1, _) :: truncH (fm.getD q) (L * 1) q ((n, AObj.cells none false [iV v]) :: rsH mc y lv q fm (flatG 1 (intC fl) N) h)) id = some o ∧ _
    by_cases e1 : id = n + 1
    · subst e1
      simp only [Hp.get] at ho ⊢
      rw [if_neg (by omega), if_neg (by omega), if_neg (by omega), if_pos trivial] at ho
      rw [if_pos trivial]
      exact ⟨ho, by omega⟩
    · have hid : id = 52 ∨ id = 51 ∨ id = 49 ∨ (id < 49 ∧ ∀ o', Hp.get h id = some o' → o'.fam = none) := by
        rcases List.mem_cons.1 hx with hx | hx
        · cases hx; exact .inl rfl
        rcases List.mem_cons.1 hx with hx | hx
        · cases hx; exact .inr (.inl rfl)
        rcases List.mem_cons.1 hx with hx | hx
        · cases hx; exact .inr (.inr (.inl rfl))
        rcases List.mem_cons.1 hx with hx | hx
        · cases hx; exact absurd rfl e1
        · exact .inr (.inr (.inr ⟨(hh _ hx).1, fun o' ho' => (hh _ (Hp.mem_of_get ho')).2⟩))
      have hlt : id < 53 := by omega
      refine ⟨?_, by omega⟩
      simp only [Hp.get]
      rw [if_neg (by omega)]
      show Hp.get ((n, _) :: truncH (fm.getD q) (L * 1) q (rsH mc y lv q fm (flatG 1 (intC fl) N) h)) id = some o
      simp only [Hp.get]
      rw [if_neg (by omega), truncH_get]
      have ho2 : Hp.get (rsH mc y lv q fm (flatG 1 (intC fl) N) h) id = some o := by
        unfold rsH
        simp only [Hp.get] at ho ⊢
        by_cases k1 : 52 = id
        · rw [if_pos k1] at ho ⊢; exact ho
        · rw [if_neg k1] at ho ⊢
          by_cases k2 : 51 = id
          · rw [if_pos k2] at ho ⊢; exact ho
          · rw [if_neg k2] at ho ⊢
            by_cases k3 : 49 = id
            · rw [if_pos k3] at ho ⊢; exact ho
            · rw [if_neg k3, if_neg (by omega)] at ho ⊢; exact ho
      rw [ho2]
      show some (trunc1 (fm.getD q) (L * 1) (id == q) o) = some o
      rw [key id o (by omega) ?_]
      rcases hid with rfl | rfl | rfl | ⟨_, hf⟩
      · simp only [Hp.get] at ho; rw [if_pos trivial] at ho; cases ho; rfl
      · simp only [Hp.get] at ho; rw [if_neg (by omega), if_pos trivial] at ho; cases ho; rfl
      · simp only [Hp.get] at ho; rw [if_neg (by omega), if_neg (by omega), if_pos trivial] at ho; cases ho; rfl
      · refine hf o ?_
        simp only [Hp.get] at ho
        rw [if_neg (by omega), if_neg (by omega), if_neg (by omega), if_neg (by omega)] at ho
        exact ho
end Go.Fz
namespace Go.Fz
open Go.Proofs
set_option maxRecDepth 100000
section
variable (K : List (List Nat) → Hp → Nat → Prop) (stop : List (List Nat) → List Nat → Hp → Nat → Prop) (ok : List Nat → Prop) (mc y many : Nat) (ex : Bool)
def rsStep : Prop := ∀ seen l h n R, K seen h n → ok l → (∀ x ∈ R, 49 ≤ x.1 ∧ x.1 < n ∧ x.2.own = true) → YieldW Try.prog y [lsV l] ⟨R ++ h, n⟩ (fun v st' => (v = .lit (.bool true) ∧ ∃ h' n', n ≤ n' ∧ st' = ⟨R ++ h', n'⟩ ∧ K (seen ++ [l]) h' n') ∨ (v = .lit (.bool false) ∧ ∃ h' n', n ≤ n' ∧ st' = ⟨R ++ h', n'⟩ ∧ stop seen l h' n'))
variable {K stop ok mc y many ex}
set_option maxHeartbeats 8000000 in
theorem ext_leaf (hmc : mc < 49) (hmany : many < 100) (hid : ∀ s h n, K s h n → rsI mc many h n) (step : rsStep K stop ok y) (p : List Nat) (s : Nat) (seen : List (List Nat)) (h : Hp) (n : Nat) (st : St) (hp : p.length ≤ many) (hok : ok p) (hst : rsS mc y ex p h n st) (hK : K seen h n) :
    CallW Try.prog 102 [iV ((0 : Nat) : Int), iV (s : Int), .ptr 49 0, .ptr 51 0, .ptr mc 0, .ptr 52 0] st (rsQ K stop mc y ex seen p [p]) := by
  obtain ⟨O, hO⟩ : ∃ O : Ar, O = std := ⟨_, rfl⟩
  obtain ⟨q, fm, fl, N, q1, q2, q3, qn, hpN, hfl, rfl⟩ := hst
  obtain ⟨hn, hh, fm0, ro0, hmcg⟩ := hid _ _ _ hK
  obtain ⟨G, hG⟩ : ∃ G, flatG 1 (intC fl) N = G := ⟨_, rfl⟩
  have hs := step seen p h n [(52, .cells none false [extV mc]), (51, .cells none false [.sl q 0 p.length 1 ex]), (49, .cells none false [.yld y]), (q, .cells fm false G)] hK hok (fun x hx => by
    simp only [List.mem_cons, List.not_mem_nil, or_false] at hx
    rcases hx with rfl | rfl | rfl | rfl
    · exact ⟨by show 49 ≤ 52; omega, by show 52 < n; omega, rfl⟩
    · exact ⟨by show 49 ≤ 51; omega, by show 51 < n; omega, rfl⟩
    · exact ⟨by show 49 ≤ 49; omega, by show 49 < n; omega, rfl⟩
    · exact ⟨by show 49 ≤ q; omega, qn, rfl⟩)
  have c1 := fun (b : Bool) => clone_ok (ex := b) (off := 0) (n := p.length) (N := N) (fl := fl) (id := q) (fm := fm) (ro := false) (G := G) (r := lsV p) (st := ⟨rsH mc y (.sl q 0 p.length 1 ex) q fm G h, n⟩) (rs_get q1 q2 q3) hG (by omega) (by omega)
    (Eqv.isl rfl fun i k hi _ => Eqv.of (by show iV (fl (0 + i)) = iV ((p.getD i 0 : Nat) : Int); rw [Nat.zero_add, hfl i hi])) (lsV_below p)
  rw [hG]
  obtain ⟨lv, hlv⟩ : ∃ lv, lsV p = lv := ⟨_, rfl⟩
  rw [hlv] at hs c1
  have hfin : ∀ h' n', n ≤ n' → rsS mc y ex p h' n' ⟨rsH mc y (.sl q 0 p.length 1 ex) q fm G h', n'⟩ := fun h' n' hle => ⟨q, fm, fl, N, q1, q2, q3, by omega, hpN, hfl, by rw [hG]⟩
  obtain ⟨L, hL⟩ : ∃ L, p.length = L := ⟨_, rfl⟩
  rw [hL] at hs c1 hfin ⊢
  refine callW_of_body tok Try.func102 rfl ?_
  refine SW.seqRun tok hO (by cbv <;> rfl) (by trivial) ?_
  refine SW.seq ?_
  refine SW.seqRun tok hO (by cbv <;> rfl) (by trivial) ?_
  refine SW.condS (by cbv <;> rfl) (fun h1 => ?_) (fun h1 => ?_)
  rotate_left
  · exfalso
    subst hO; simp [std] at h1
  refine SW.seqRunD tok mixed hO (by kernel_rfl) (by cbv <;> rfl) (by trivial) ?_
  refine AnyE.callS en103 (c1 ex) (by cbv <;> rfl) (by cbv <;> rfl) ?_
  refine AnyE.run tok hO (by kernel_rfl) (by cbv <;> rfl) (by trivial) ?_
  refine AnyE.apply (c := .yld y) (args := [lv]) (by cbv <;> rfl) (by cbv <;> rfl) hs fun v st' hk => ?_
  rcases hk with ⟨rfl, h2, n2, hle, rfl, hk⟩ | ⟨rfl, h2, n2, hle, rfl, hk⟩
  · refine AnyE.run tok hO (by kernel_rfl) (by cbv <;> rfl) (by trivial) ?_
    exact SW.ret ⟨_, _, rfl, rfl, .inl ⟨rfl, h2, n2, hfin h2 n2 hle, hk⟩⟩
  · refine AnyE.run tok hO (by kernel_rfl) (by cbv <;> rfl) (by trivial) ?_
    exact SW.ret ⟨_, _, rfl, rfl, .inr ⟨rfl, [], p, [], h2, n2, rfl, hfin h2 n2 hle, by rw [List.append_nil]; exact hk⟩⟩
end
end Go.Fz
namespace Go.Fz
open Go.Proofs
set_option maxRecDepth 100000
theorem range_split (a b : Nat) (h : a ≤ b) : ∃ r, List.range b = List.range a ++ r := by
  have h1 := List.take_append_drop a (List.range b)
  rw [List.take_range, Nat.min_eq_left h] at h1
  exact ⟨_, h1.symm⟩
section
variable {K : List (List Nat) → Hp → Nat → Prop} {stop : List (List Nat) → List Nat → Hp → Nat → Prop} {ok : List Nat → Prop} {mc y many : Nat}
set_option maxHeartbeats 16000000 in
theorem ext_step (hmc : mc < 49) (hmany : many < 100) (hid : ∀ s h n, K s h n → rsI mc many h n) (hmono : ∀ s h n n', K s h n → n ≤ n' → K s h n') (m : Nat)
    (ih : ∀ (p : List Nat) (s : Nat) (seen : List (List Nat)) (h : Hp) (n : Nat) (st : St), m + p.length ≤ many → s ≤ many → (∀ l ∈ risE many m p s, ok l) → rsS mc y false p h n st → K seen h n →
      CallW Try.prog 102 [iV (m : Int), iV (s : Int), .ptr 49 0, .ptr 51 0, .ptr mc 0, .ptr 52 0] st (rsQ K stop mc y false seen p (risE many m p s)))
    (p : List Nat) (s : Nat) (seen : List (List Nat)) (h : Hp) (n : Nat) (st : St) (hp : m + 1 + p.length ≤ many) (hs : s ≤ many) (hok : ∀ l ∈ risE many (m + 1) p s, ok l) (hst : rsS mc y false p h n st) (hK : K seen h n) :
    CallW Try.prog 102 [iV ((m + 1 : Nat) : Int), iV (s : Int), .ptr 49 0, .ptr 51 0, .ptr mc 0, .ptr 52 0] st (rsQ K stop mc y false seen p (risE many (m + 1) p s)) := by
  obtain ⟨O, hO⟩ : ∃ O : Ar, O = std := ⟨_, rfl⟩
  obtain ⟨q, fm, fl, N, q1, q2, q3, qn, hpN, hfl, rfl⟩ := hst
  obtain ⟨F, hF⟩ : ∃ F : Nat → List (List Nat), F = fun c => risE many m (p ++ [s + c]) (s + c + 1) := ⟨_, rfl⟩
  have hE : risE many (m + 1) p s = (List.range (many - m - s)).flatMap F := by rw [hF]; rfl
  rw [hE] at hok ⊢
  have hsn : ∀ c, (List.range (c + 1)).flatMap F = (List.range c).flatMap F ++ F c := fun c => by rw [List.range_succ, List.flatMap_append]; simp
  obtain ⟨ma, hma⟩ : ∃ ma : Int, ((m + 1 : Nat) : Int) = ma := ⟨_, rfl⟩
  obtain ⟨sa, hsa⟩ : ∃ sa : Int, (s : Int) = sa := ⟨_, rfl⟩
  rw [hma, hsa]
  refine callW_of_body tok Try.func102 rfl ?_
  have hst0 : rsS mc y false p h n ⟨rsH mc y (.sl q 0 p.length 1 false) q fm (flatG 1 (intC fl) N) h, n⟩ := ⟨q, fm, fl, N, q1, q2, q3, qn, hpN, hfl, rfl⟩
  obtain ⟨L, hL⟩ : ∃ L, p.length = L := ⟨_, rfl⟩
  obtain ⟨G, hG⟩ : ∃ G, flatG 1 (intC fl) N = G := ⟨_, rfl⟩
  rw [hL, hG] at hst0
  rw [hL, hG]
  refine SW.seqRun tok hO (by cbv <;> rfl) (by trivial) ?_
  refine SW.seq ?_
  refine SW.seqRun tok hO (by cbv <;> rfl) (by trivial) ?_
  refine SW.condS (by cbv <;> rfl) (fun h1 => ?_) (fun h1 => SW.skip ?_)
  · exfalso
    have : ma = 0 := by subst hO; simpa [std] using h1
    omega
  refine SW.seq ?_
  refine SW.seqRun tok hO (by cbv <;> rfl) (by trivial) ?_
  refine (SW.block (SW.loop (fun k f st => ∃ (g : Nat → AV) (c : Nat) (h' : Hp) (n' : Nat), f = ⟨⟨42, g⟩, []⟩ ∧ AllP (fun p => g p.1 = p.2) [(0, iV ma), (2, .ptr 49 0), (3, .ptr 51 0), (4, .ptr mc 0), (5, .ptr 52 0), (9, iV (sa + (c : Int)))] ∧ rsS mc y false p h' n' st ∧
      K (seen ++ (List.range c).flatMap F) h' n' ∧ c ≤ many - m - s ∧ k = many - m - s - c) (many - m - s - 0) ?_ ?_))
  · refine ⟨_, 0, h, n, rfl, ⟨rfl, rfl, rfl, rfl, rfl, ?_, trivial⟩, hst0, by simpa using hK, by omega, rfl⟩
    show iV sa = iV (sa + ((0 : Nat) : Int))
    rw [show sa + ((0 : Nat) : Int) = sa by omega]
  · rintro k f st ⟨g, c, h', n', rfl, ⟨g0, g2, g3, g4, g5, g9, _⟩, hst, hK', hle, rfl⟩
    obtain ⟨q, fm, fl, N, q1, q2, q3, qn, hpN, hfl, rfl⟩ := hst
    obtain ⟨hn, hh, fm0, ro0, hmcg⟩ := hid _ _ _ hK'
    simp only at g0 g2 g3 g4 g5 g9
    rw [← updT_self g0, ← updT_self g2, ← updT_self g3, ← updT_self g4, ← updT_self g5, ← updT_self g9]
    obtain ⟨v, hv⟩ : ∃ v, sa + (c : Int) = v := ⟨_, rfl⟩
    have hst1 : rsS mc y false p h' n' ⟨rsH mc y (.sl q 0 p.length 1 false) q fm (flatG 1 (intC fl) N) h', n'⟩ := ⟨q, fm, fl, N, q1, q2, q3, qn, hpN, hfl, rfl⟩
    rw [hv]
    obtain ⟨G1, hG1⟩ : ∃ G1, flatG 1 (intC fl) N = G1 := ⟨_, rfl⟩
    rw [hL] at hst1 hpN
    rw [hG1] at hst1
    rw [hL, hG1]
    refine SW.seq ?_
    refine SW.seq (SW.runN tok hO 1 (by cbv <;> rfl) (by trivial) ?_)
    refine OpsW.ldI tok (by cbv <;> rfl) (load_int (v := (many : Int)) ((rs_mc q1 hmc).trans hmcg)) ?_
    obtain ⟨mn, hmn⟩ : ∃ mn : Int, (many : Int) = mn := ⟨_, rfl⟩
    rw [hmn]
    refine OpsW.run tok hO (by cbv <;> rfl) (by trivial) ?_
    have hsub : O.bin .sub .i64 mn ma = mn - ma := by
      subst hO
      show sub64 mn ma = _
      rw [sub64_in _ _ (by omega) (by omega)]
    refine SW.condS (by cbv <;> rfl) (fun h3 => SW.skip ?_) (fun h3 => SW.exit ?_)
    rotate_left
    · have hgt : mn - ma < v := by
        have : O.bin .sub .i64 mn ma < v := by subst hO; simpa [std] using h3
        rwa [hsub] at this
      have hc : c = many - m - s := by omega
      refine SW.seqRun tok hO (by cbv <;> rfl) (by trivial) ?_
      refine SW.ret ⟨_, _, rfl, rfl, .inl ⟨rfl, h', n', hst1, ?_⟩⟩
      rw [hc] at hK'; exact hK'
    · have hvle : v ≤ mn - ma := by
        have : v ≤ O.bin .sub .i64 mn ma := by subst hO; simpa [std] using h3
        rwa [hsub] at this
      have hcl : c < many - m - s := by omega
      have hvN : v = ((s + c : Nat) : Int) := by omega
      refine SW.seq (SW.block ?_)
      refine SW.seq (SW.runN tok hO 3 (by cbv <;> rfl) (by trivial) ?_)
      obtain ⟨h2, happ, hsubh⟩ := app_rs (mc := mc) (y := y) (t := 56) (L := L) (q := q) (n := n') (lv := .sl q 0 L 1 false) (fm := fm) (fl := fl) (N := N) (h := h') (v := v) (ex := true) (by kernel_rfl) q1 q2 q3 qn (by omega) (by omega) hh hn
      rw [hG1] at happ
      refine OpsW.appA tok (by cbv <;> rfl) happ ?_
      refine OpsW.sub (by rfl) hsubh ?_
      have hflx : ∀ i, i < (p ++ [s + c]).length → setI fl L v i = (((p ++ [s + c]).getD i 0 : Nat) : Int) := fun i hi => by
        rw [List.length_append, List.length_singleton, hL] at hi
        by_cases e : i = L
        · subst e
          rw [setI_self, hvN]
          congr 1
          rw [← hL]; simp
        · rw [setI_ne e, hfl i (by omega)]
          congr 1
          rw [List.getD_eq_getElem?_getD, List.getD_eq_getElem?_getD, List.getElem?_append_left (by omega)]
      have hlen1 : (p ++ [s + c]).length = L + 1 := by rw [List.length_append, List.length_singleton, hL]
      have hst2 : rsS mc y false (p ++ [s + c]) h' (n' + 1 + 1) ⟨rsH mc y (.sl (n' + 1) 0 (L + 1) 1 false) (n' + 1) (some (fm.getD q)) (flatG 1 (intC (setI fl L v)) (L + 1)) h', n' + 1 + 1⟩ :=
        ⟨n' + 1, some (fm.getD q), setI fl L v, L + 1, by omega, by omega, by omega, by omega, by omega, hflx, by rw [hlen1]⟩
      have hrec := ih (p ++ [s + c]) (s + c + 1) (seen ++ (List.range c).flatMap F) h' (n' + 1 + 1) _ (by omega) (by omega) (fun l hl => hok l (List.mem_flatMap.2 ⟨c, List.mem_range.2 hcl, by rw [hF]; exact hl⟩)) hst2 (hmono _ _ _ _ hK' (by omega))
      obtain ⟨G2, hG2⟩ : ∃ G2, flatG 1 (intC (setI fl L v)) (L + 1) = G2 := ⟨_, rfl⟩
      rw [hG2] at hrec
      rw [hG2]
      have e1 : iV (m : Int) = AV.lit (.int .i64 (O.bin .sub .i64 ma 1)) := by
        have : O.bin .sub .i64 ma 1 = (m : Int) := by
          subst hO
          show sub64 ma 1 = _
          rw [sub64_in _ _ (by omega) (by omega)]; omega
        rw [this]; rfl
      have e2 : iV ((s + c + 1 : Nat) : Int) = AV.lit (.int .i64 (O.bin .add .i64 v 1)) := by
        have : O.bin .add .i64 v 1 = ((s + c + 1 : Nat) : Int) := by
          subst hO
          show add64 v 1 = _
          rw [add64_in _ _ (by omega) (by omega)]; omega
        rw [this]; rfl
      rw [e1, e2] at hrec
      refine OpsW.run tok hO (by cbv <;> rfl) (by trivial) ?_
      refine SW.seqRun tok hO (by cbv <;> rfl) (by trivial) ?_
      refine OpsW.apply (by cbv <;> rfl) (show ApplyW Try.prog (extV mc) _ _ _ from ⟨en102, hrec⟩) fun w st' hk => ?_
      have hFc : risE many m (p ++ [s + c]) (s + c + 1) = F c := by rw [hF]
      rw [hFc] at hk
      have hcut : O.bin .sub .i64 (Int.ofNat (L + 1)) 1 = Int.ofNat L := by
        subst hO
        show sub64 ((L + 1 : Nat) : Int) 1 = (L : Int)
        rw [sub64_in _ _ (by omega) (by omega)]; omega
      rcases hk with ⟨rfl, h3, n3, ⟨q', fm', fl', N', k1, k2, k3, k4, k5, k6, rfl⟩, hk⟩ | ⟨rfl, pre, l, post, h3, n3, hE3, ⟨q', fm', fl', N', k1, k2, k3, k4, k5, k6, rfl⟩, hk⟩
      · have hst3 : rsS mc y false p h3 n3 ⟨rsH mc y (.sl q' 0 L 1 false) q' fm' (flatG 1 (intC fl') N') h3, n3⟩ := ⟨q', fm', fl', N', k1, k2, k3, k4, by rw [hlen1] at k5; omega, fun i hi => by
          rw [k6 i (by omega), List.getD_eq_getElem?_getD, List.getD_eq_getElem?_getD, List.getElem?_append_left (by omega)], by rw [hL]⟩
        obtain ⟨G3, hG3⟩ : ∃ G3, flatG 1 (intC fl') N' = G3 := ⟨_, rfl⟩
        rw [hG3] at hst3
        rw [hG3, hlen1]
        refine OpsW.run tok hO (by cbv <;> rfl) (by trivial) ?_
        refine SW.seq (SW.runN tok hO 4 (by cbv <;> rfl) (by trivial) ?_)
        refine OpsW.cutU tok (u := L) (by cbv <;> rfl) hcut (by kernel_rfl) (by omega) ?_
        refine OpsW.run tok hO (by cbv <;> rfl) (by trivial) ?_
        refine SW.seqRun tok hO (by cbv <;> rfl) (by trivial) ?_
        refine SW.cond (t := false) (by cbv <;> rfl) (SW.skip ?_)
        refine SW.run tok hO (by cbv <;> rfl) (by trivial) ?_
        have hinc : O.bin .add .i64 v 1 = sa + ((c + 1 : Nat) : Int) := by
          subst hO
          show add64 v 1 = _
          rw [add64_in _ _ (by omega) (by omega)]; omega
        refine ⟨many - m - s - (c + 1), by omega, _, c + 1, h3, n3, rfl, ⟨rfl, rfl, rfl, rfl, rfl, congrArg (fun z => AV.lit (.int .i64 z)) hinc, trivial⟩, hst3, ?_, by omega, rfl⟩
        rw [hsn, ← List.append_assoc]; exact hk
      · have hst3 : rsS mc y false p h3 n3 ⟨rsH mc y (.sl q' 0 L 1 false) q' fm' (flatG 1 (intC fl') N') h3, n3⟩ := ⟨q', fm', fl', N', k1, k2, k3, k4, by rw [hlen1] at k5; omega, fun i hi => by
          rw [k6 i (by omega), List.getD_eq_getElem?_getD, List.getD_eq_getElem?_getD, List.getElem?_append_left (by omega)], by rw [hL]⟩
        obtain ⟨G3, hG3⟩ : ∃ G3, flatG 1 (intC fl') N' = G3 := ⟨_, rfl⟩
        rw [hG3] at hst3
        rw [hG3, hlen1]
        refine OpsW.run tok hO (by cbv <;> rfl) (by trivial) ?_
        refine SW.seq (SW.runN tok hO 4 (by cbv <;> rfl) (by trivial) ?_)
        refine OpsW.cutU tok (u := L) (by cbv <;> rfl) hcut (by kernel_rfl) (by omega) ?_
        refine OpsW.run tok hO (by cbv <;> rfl) (by trivial) ?_
        refine SW.seqRun tok hO (by cbv <;> rfl) (by trivial) ?_
        refine SW.cond (t := true) (by cbv <;> rfl) ?_
        refine SW.seqRun tok hO (by cbv <;> rfl) (by trivial) ?_
        obtain ⟨r, hr⟩ := range_split (c + 1) (many - m - s) hcl
        have hsplit : (List.range (many - m - s)).flatMap F = ((List.range c).flatMap F ++ pre) ++ l :: (post ++ r.flatMap F) := by
          rw [hr, List.flatMap_append, hsn, hE3]
          simp [List.append_assoc]
        refine SW.ret ⟨_, _, rfl, rfl, .inr ⟨rfl, (List.range c).flatMap F ++ pre, l, _, h3, n3, hsplit, hst3, ?_⟩⟩
        rw [← List.append_assoc]; exact hk
end
end Go.Fz
namespace Go.Fz
open Go.Proofs
set_option maxRecDepth 100000
theorem SW.sub {P : Program} {rd : Option Nat} {c : Code} {Q : Exit → Fm → St → Prop} {f : Fm} {h1 h2 : Hp} {n : Nat} (hd : f.dm = []) (hs : ∀ id o, h2.get id = some o → h1.get id = some o ∧ id < n) (h : SW P rd c Q f ⟨h2, n⟩) : SW P rd c Q f ⟨h1, n⟩ :=
  SW.pre (f2 := f) (st2 := ⟨h2, n⟩) ⟨rfl, rfl, fun id hid => (by rw [hd] at hid; cases hid), fun i => .inr ⟨rfl, .inl rfl⟩, Nat.le_refl _, Nat.le_refl _, fun id o ho => ⟨(hs id o ho).1, (hs id o ho).2, .inl rfl⟩⟩ h
section
variable {K : List (List Nat) → Hp → Nat → Prop} {stop : List (List Nat) → List Nat → Hp → Nat → Prop} {ok : List Nat → Prop} {mc y many : Nat}
theorem ext_ok (hmc : mc < 49) (hmany : many < 100) (hid : ∀ s h n, K s h n → rsI mc many h n) (hmono : ∀ s h n n', K s h n → n ≤ n' → K s h n') (step : rsStep K stop ok y) :
    ∀ (m : Nat) (ex : Bool) (p : List Nat) (s : Nat) (seen : List (List Nat)) (h : Hp) (n : Nat) (st : St), (0 < m → ex = false) → m + p.length ≤ many → s ≤ many → (∀ l ∈ risE many m p s, ok l) → rsS mc y ex p h n st → K seen h n →
      CallW Try.prog 102 [iV (m : Int), iV (s : Int), .ptr 49 0, .ptr 51 0, .ptr mc 0, .ptr 52 0] st (rsQ K stop mc y ex seen p (risE many m p s))
  | 0, ex, p, s, seen, h, n, st, _, hp, _, hok, hst, hK => ext_leaf hmc hmany hid step p s seen h n st (by omega) (hok p (List.mem_singleton.2 rfl)) hst hK
  | m + 1, ex, p, s, seen, h, n, st, hex, hp, hs, hok, hst, hK => by
    obtain rfl := hex (Nat.succ_pos m)
    exact ext_step hmc hmany hid hmono m (fun p s seen h n st => ext_ok hmc hmany hid hmono step m false p s seen h n st fun _ => rfl) p s seen h n st hp hs hok hst hK
theorem mem_risE_sub {many : Nat} {m : Nat} (hm : m ≤ many) {l : List Nat} (hl : l ∈ risE many m [] 0) : l ∈ risL many := List.mem_flatMap.2 ⟨m, List.mem_range.2 (by omega), hl⟩
set_option maxHeartbeats 16000000 in
theorem rising101 (hmc : mc < 49) (hmany : many < 100) (hid : ∀ s h n, K s h n → rsI mc many h n) (hidS : ∀ s l h n, stop s l h n → 53 ≤ n ∧ ∀ x ∈ h, x.1 < 49) (hmono : ∀ s h n n', K s h n → n ≤ n' → K s h n') (hok : ∀ l ∈ risL many, ok l) (step : rsStep K stop ok y)
    (h0 : Hp) (n0 : Nat) (hn0 : n0 ≤ 49) (hK : K [] h0 53) :
    CallW Try.prog 101 [.yld y, .ptr mc 0] ⟨h0, n0⟩ (fun _ st' => ∃ h n, st' = ⟨h, n⟩ ∧ (K (risL many) h n ∨ ∃ pre l post, risL many = pre ++ l :: post ∧ stop pre l h n)) := by
  obtain ⟨O, hO⟩ : ∃ O : Ar, O = std := ⟨_, rfl⟩
  obtain ⟨_, hh0, fm0, ro0, hmcg⟩ := hid _ _ _ hK
  refine CallW.pad (n := 49) (by show n0 ≤ 49; exact hn0) ?_
  refine CallW.weak (k1 := fun _ st' => ∃ R h n, (∀ id o, Hp.get R id = some o → 49 ≤ id) ∧ st' = ⟨R ++ h, n⟩ ∧ (∀ x ∈ h, x.1 < 49) ∧ 53 ≤ n ∧ (K (risL many) h n ∨ ∃ pre l post, risL many = pre ++ l :: post ∧ stop pre l h n)) ?_ (fun v st1 ⟨R, h, n, hR, hs, hl, hn, hk⟩ => .inr ⟨.any, ⟨h, n⟩, ⟨.inl rfl, by show 49 ≤ n; omega, by rw [hs]; exact Nat.le_refl _, fun id o ho => ?_⟩, h, n, rfl, hk⟩)
  rotate_left
  · have hlt : id < 49 := hl _ (Hp.mem_of_get ho)
    refine ⟨?_, by show id < n; omega, .inl (by rw [hs])⟩
    rw [hs]
    show Hp.get (R ++ h) id = some o
    rw [Hp.get_app]
    cases hg : Hp.get R id with
    | none => exact ho
    | some o' => have := hR id o' hg; omega
  have hget : ∀ {q : Nat} {fm : Option Nat} {G : List AV} {lv : AV}, 50 ≤ q → ∀ id o, Hp.get [(52, AObj.cells none false [extV mc]), (51, .cells none false [lv]), (49, .cells none false [.yld y]), (q, .cells fm false G)] id = some o → 49 ≤ id := fun hq id o ho => by
    have := Hp.mem_of_get ho
    simp only [List.mem_cons, List.not_mem_nil, or_false, Prod.mk.injEq] at this
    omega
  obtain ⟨F, hF⟩ : ∃ F : Nat → List (List Nat), F = fun m => risE many m [] 0 := ⟨_, rfl⟩
  have hsn : ∀ c, (List.range (c + 1)).flatMap F = (List.range c).flatMap F ++ F c := fun c => by rw [List.range_succ, List.flatMap_append]; simp
  have hE : risL many = (List.range (many + 1)).flatMap F := by rw [hF]; rfl
  refine callW_of_body tok Try.func101 rfl ?_
  refine SW.seqRun tok hO (by cbv <;> rfl) (by trivial) ?_
  have hmc1 : ∀ o, Hp.get ((49, o) :: h0) mc = some (.cells fm0 ro0 [iV (many : Int)]) := fun o => by
    simp only [Hp.get]
    rw [if_neg (by omega)]; exact hmcg
  refine SW.seq (SW.runN tok hO 0 (by cbv <;> rfl) (by trivial) ?_)
  refine OpsW.ldI tok (by cbv <;> rfl) (load_int (v := (many : Int)) (hmc1 _)) ?_
  obtain ⟨mn, hmn⟩ : ∃ mn : Int, (many : Int) = mn := ⟨_, rfl⟩
  rw [hmn]
  refine OpsW.runN tok hO 1 (by cbv <;> rfl) (by trivial) ?_
  have hmx : O.mx mn 0 = Int.ofNat many := by
    subst hO
    show (if (0 : Int) > mn then 0 else mn) = (many : Int)
    rw [if_neg (by omega), hmn]
  refine OpsW.mkCap tok (N := many) (by cbv <;> rfl) hmx (by kernel_rfl) (by omega) ?_
  have hst0 : rsS mc y (Nat.beq many 0) [] h0 53 ⟨rsH mc y (.sl 50 0 0 1 (Nat.beq many 0)) 50 none (flatG 1 (intC fun _ => 0) many) h0, 53⟩ :=
    ⟨50, none, fun _ => 0, many, by omega, by omega, by omega, by omega, Nat.zero_le _, fun i hi => absurd hi (Nat.not_lt_zero i), rfl⟩
  obtain ⟨G, hG⟩ : ∃ G, flatG 1 (intC fun _ => 0) many = G := ⟨_, rfl⟩
  obtain ⟨ex, hex⟩ : ∃ ex, Nat.beq many 0 = ex := ⟨_, rfl⟩
  rw [hG, hex] at hst0
  rw [hG, hex]
  refine OpsW.run tok hO (by cbv <;> rfl) (by trivial) ?_
  refine SW.seqRun tok hO (by cbv <;> rfl) (by trivial) ?_
  refine SW.seqRun tok hO (by cbv <;> rfl) (by trivial) ?_
  refine SW.seqRun tok hO (by cbv <;> rfl) (by trivial) ?_
  refine SW.sub (h2 := rsH mc y (.sl 50 0 0 1 ex) 50 none G h0) (by rfl) (fun id o ho => ?_) ?_
  · have hm := Hp.mem_of_get ho
    unfold rsH at ho hm
    simp only [List.mem_cons, Prod.mk.injEq] at hm
    rcases hm with ⟨rfl, rfl⟩ | ⟨rfl, rfl⟩ | ⟨rfl, rfl⟩ | ⟨rfl, rfl⟩ | hm
    · exact ⟨rfl, by omega⟩
    · exact ⟨rfl, by omega⟩
    · exact ⟨rfl, by omega⟩
    · exact ⟨rfl, by omega⟩
    · have hlt : id < 49 := (hh0 _ hm).1
      simp only [Hp.get] at ho ⊢
      rw [if_neg (by omega), if_neg (by omega), if_neg (by omega), if_neg (by omega)] at ho ⊢
      exact ⟨ho, by omega⟩
  refine SW.block (SW.loop (fun k f st => ∃ (g : Nat → AV) (c : Nat) (h' : Hp) (n' : Nat), f = ⟨⟨20, g⟩, []⟩ ∧ AllP (fun p => g p.1 = p.2) [(1, .ptr mc 0), (4, .ptr 52 0), (5, iV (c : Int))] ∧ rsS mc y ex [] h' n' st ∧ K ((List.range c).flatMap F) h' n' ∧ c ≤ many + 1 ∧ k = many + 1 - c) (many + 1 - 0) ?_ ?_)
  · exact ⟨_, 0, h0, 53, rfl, ⟨rfl, rfl, rfl, trivial⟩, hst0, hK, by omega, rfl⟩
  · rintro k f st ⟨g, c, h', n', rfl, ⟨g1, g4, g5, _⟩, hst, hK', hle, rfl⟩
    have hst1 := hst
    obtain ⟨q, fm, fl, N, q1, q2, q3, qn, hpN, hfl, rfl⟩ := hst
    obtain ⟨hn, hh, fm1, ro1, hmcg1⟩ := hid _ _ _ hK'
    simp only at g1 g4 g5
    rw [← updT_self g1, ← updT_self g4, ← updT_self g5]
    have hmcg2 := (rs_mc (y := y) (lv := .sl q 0 0 1 ex) (q := q) (fm := fm) (G := flatG 1 (intC fl) N) (h := h') q1 hmc).trans hmcg1
    obtain ⟨G1, hG1⟩ : ∃ G1, flatG 1 (intC fl) N = G1 := ⟨_, rfl⟩
    obtain ⟨v, hv⟩ : ∃ v, (c : Int) = v := ⟨_, rfl⟩
    have hlow : ∀ x ∈ h', x.1 < 49 := fun x hx => (hh x hx).1
    have hrec := fun hc : c ≤ many => ext_ok hmc hmany hid hmono step c ex [] 0 _ h' n' _ (fun hp => by rw [← hex]; cases many with | zero => omega | succ k => rfl) (by rw [List.length_nil]; omega) (Nat.zero_le _) (fun l hl => hok l (mem_risE_sub hc hl)) hst1 hK'
    simp only [List.length_nil] at hrec hst1 ⊢
    rw [hG1] at hst1 hmcg2
    rw [hG1, hv] at hrec
    rw [hG1, hv]
    refine SW.seq ?_
    refine SW.seq (SW.runN tok hO 1 (by cbv <;> rfl) (by trivial) ?_)
    refine OpsW.ldI tok (by cbv <;> rfl) (load_int (v := (many : Int)) hmcg2) ?_
    rw [hmn]
    refine OpsW.run tok hO (by cbv <;> rfl) (by trivial) ?_
    refine OpsW.splitG (by cbv <;> rfl) (fun hb => ?_) (fun hb => ?_)
    rotate_left
    · have hgt : ¬ v ≤ mn := by subst hO; exact of_decide_eq_false hb
      have hc : c = many + 1 := by omega
      refine OpsW.run tok hO (by cbv <;> rfl) (by trivial) ?_
      refine SW.cond (t := false) (by cbv <;> rfl) (SW.exit ?_)
      refine ⟨_, _, rfl, rfl, [(52, .cells none false [extV mc]), (51, .cells none false [.sl q 0 0 1 ex]), (49, .cells none false [.yld y]), (q, .cells fm false G1)], h', n', hget q1, rfl, hlow, hn, .inl ?_⟩
      rw [hE, ← hc]; exact hK'
    · have hcle : v ≤ mn := by subst hO; exact of_decide_eq_true hb
      refine OpsW.run tok hO (by cbv <;> rfl) (by trivial) ?_
      refine OpsW.apply (by cbv <;> rfl) (show ApplyW Try.prog (extV mc) _ _ _ from ⟨en102, hrec (by omega)⟩) fun w st' hk => ?_
      rcases hk with ⟨rfl, h3, n3, hst3, hk⟩ | ⟨rfl, pre, l, post, h3, n3, hE3, hst3, hk⟩
      · have hst4 := hst3
        obtain ⟨q', fm', fl', N', k1, k2, k3, k4, k5, k6, rfl⟩ := hst3
        obtain ⟨G3, hG3⟩ : ∃ G3, flatG 1 (intC fl') N' = G3 := ⟨_, rfl⟩
        simp only [List.length_nil] at hst4 ⊢
        rw [hG3] at hst4
        rw [hG3]
        refine OpsW.run tok hO (by cbv <;> rfl) (by trivial) ?_
        refine SW.cond (t := true) (by cbv <;> rfl) (SW.skip ?_)
        refine SW.seq (SW.block (SW.skip ?_))
        refine SW.run tok hO (by cbv <;> rfl) (by trivial) ?_
        have hinc : O.bin .add .i64 v 1 = ((c + 1 : Nat) : Int) := by
          subst hO
          show add64 v 1 = _
          rw [add64_in _ _ (by omega) (by omega)]; omega
        refine ⟨many + 1 - (c + 1), by omega, _, c + 1, h3, n3, rfl, ⟨rfl, rfl, congrArg (fun z => AV.lit (.int .i64 z)) hinc, trivial⟩, hst4, ?_, by omega, rfl⟩
        rw [hsn, hF]; rw [hF] at hk; exact hk
      · obtain ⟨q', fm', fl', N', k1, k2, k3, k4, k5, k6, rfl⟩ := hst3
        obtain ⟨G3, hG3⟩ : ∃ G3, flatG 1 (intC fl') N' = G3 := ⟨_, rfl⟩
        simp only [List.length_nil]
        rw [hG3]
        refine OpsW.run tok hO (by cbv <;> rfl) (by trivial) ?_
        refine SW.cond (t := false) (by cbv <;> rfl) (SW.exit ?_)
        obtain ⟨hn3, hl3⟩ := hidS _ _ _ _ hk
        obtain ⟨r, hr⟩ := range_split (c + 1) (many + 1) (by omega)
        refine ⟨_, _, rfl, rfl, [(52, .cells none false [extV mc]), (51, .cells none false [.sl q' 0 0 1 ex]), (49, .cells none false [.yld y]), (q', .cells fm' false G3)], h3, n3, hget k1, rfl, hl3, hn3, .inr ⟨(List.range c).flatMap F ++ pre, l, post ++ r.flatMap F, ?_, hk⟩⟩
        have hE4 : F c = pre ++ l :: post := by rw [hF]; exact hE3
        rw [hE, hr, List.flatMap_append, hsn, hE4]
        simp [List.append_assoc]
theorem rising74 (h : Hp) (n : Nat) : CallW Try.prog 74 [iV (many : Int)] ⟨h, n⟩ (fun v st' => v = .fn (.func 101) [] [.ptr n 0] ∧ st' = ⟨(n, .cells none false [iV (many : Int)]) :: h, n + 1⟩) := by
  obtain ⟨O, hO⟩ : ∃ O : Ar, O = std := ⟨_, rfl⟩
  obtain ⟨mn, hmn⟩ : ∃ mn : Int, (many : Int) = mn := ⟨_, rfl⟩
  rw [hmn]
  refine callW_of_body tok Try.func74 rfl ?_
  refine SW.seqRun tok hO (by cbv <;> rfl) (by trivial) ?_
  refine SW.seqRun tok hO (by cbv <;> rfl) (by trivial) ?_
  exact SW.ret ⟨_, _, rfl, rfl, rfl, rfl⟩
end
end Go.Fz
