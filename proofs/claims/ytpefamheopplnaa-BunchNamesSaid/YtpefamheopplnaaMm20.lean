/- Own work of the verifier of watercress: FzG5, FzG6, FzK1, FzK2, FzL1. -/
import Derived.Test.YtpefamheopplnaaMm19
import Derived.Test.YtpefamheopplnaaMm18
import Derived.Test.YtpefamheopplnaaMm14
set_option linter.unusedVariables false
set_option linter.unusedSimpArgs false
namespace Go.Fz
open Go.Proofs
set_option maxRecDepth 100000
noncomputable def findRF : Code → Option (Code × Code)
  | .rangeFunc _ _ a b => some (a, b)
  | .seq a b => match findRF a with
    | some r => some r
    | none => findRF b
  | .scope a => findRF a
  | .block _ a => findRF a
  | _ => none
noncomputable def leParts : Code × Code := match findRF (bodyF Try.f31) with
  | some p => p
  | none => (.skip, .skip)
def leL : List (Nat × AV) := [(5, .ptr 2 0), (6, .ptr 3 0), (19, .fn (.func 101) [] [.ptr 4 0])]
noncomputable def leR : ALoop := { state := .ready, pending := none, tmps := ⟨33, getT leL⟩, params := #[20], assign := leParts.1, body := leParts.2, dfid := 5 }
noncomputable def leRx : ALoop := { leR with state := .done, pending := some (.exit 0) }
def leH (d : DayD) (XO : AV) (ME : List (AV × AV × Nat)) (cl : Nat) (r : ALoop) (xs : AV) : Hp :=
  [(6, .loop r), (5, .dfr), (4, .cells none false [iV (d.nc : Int)]), (3, .cells none false [xs]), (2, .cells none false [iV d.hand, iV d.flat, womsV d, lotsV d, cntsV d, XO, .mp 1]), (1, .map ME cl), (0, .cells none false (dayC d))]
def leaveQ (E : List (Mk × Nat)) (l : List Nat) : Bool := E.any fun p => withinL p.1 l.length (fun i => ((l.getD i 0 : Nat) : Int))
section
variable (d : DayD) (XO : AV) (hX : Below 0 XO) (E : List (Mk × Nat)) (cl : Nat) (hb : Born E cl)
theorem leH_renO {ρ : Nat → Nat} {n : Nat} {r : ALoop} {xs : AV} (hX : Below 0 XO) (hxs : Below 0 xs) (hclosed : ∀ x ∈ mapE mkV E, Below 0 x.1 ∧ Below 0 x.2.1) (hr : RenO ρ n (.loop r) (.loop r)) (h1 : ρ 1 = 1) (hn : 1 < n) :
    ∀ p ∈ leH d XO (mapE mkV E) cl r xs, RenO ρ n p.2 p.2 := fun p hp => by
  have hmp : RenV ρ n (.mp 1) (.mp 1) := by
    have := RenV.mp (ρ := ρ) (n := n) (j := 1) hn
    rwa [h1] at this
  unfold leH at hp
  simp only [List.mem_cons, List.not_mem_nil, or_false] at hp
  rcases hp with rfl | rfl | rfl | rfl | rfl | rfl | rfl
  · exact hr
  · exact .dfr
  · exact .cells (.cons (RenV.closed Below.lit) .nil)
  · exact .cells (.cons (RenV.closed hxs) .nil)
  · exact .cells (.cons (RenV.closed Below.lit) (.cons (RenV.closed Below.lit) (.cons (RenV.closed (womsV_below d)) (.cons (RenV.closed (lotsV_below d)) (.cons (RenV.closed (cntsV_below d)) (.cons (RenV.closed hX) (.cons hmp .nil)))))))
  · exact .map hclosed
  · exact .cells (RenVs.closed (dayC_below d))
theorem leR_ren {ρ : Nat → Nat} {n : Nat} {s : LoopState} {c : Option Code} (h2 : ρ 2 = 2) (h3 : ρ 3 = 3) (h4 : ρ 4 = 4) (h5 : ρ 5 = 5) (hn : 5 < n) : RenO ρ n (.loop { leR with state := s, pending := c }) (.loop { leR with state := s, pending := c }) := by
  have hp : ∀ j, j < n → ρ j = j → RenV ρ n (.ptr j 0) (.ptr j 0) := fun j hj e => by
    have := RenV.ptr (ρ := ρ) (n := n) (j := j) (off := 0) hj
    rwa [e] at this
  exact .loop rfl rfl rfl rfl rfl (by show 5 = ρ 5; rw [h5]) (by show 5 < n; exact hn) rfl (RenV.getT (l := leL) ⟨hp 2 (by omega) h2, hp 3 (by omega) h3, RenV.fn .nil (.cons (hp 4 (by omega) h4) .nil), trivial⟩)
include hX hb in
set_option maxHeartbeats 16000000 in
theorem le_round0 (N : Nat) (fl : Nat → Int) (LQ : Bool) (hl : N < 1000) (hQ1 : (∀ p ∈ E, withinL p.1 N fl = false) → LQ = false) (hQ2 : ∀ p ∈ E, withinL p.1 N fl = true → LQ = true) :
    YieldW Try.prog 6 [intsV N false fl] ⟨leH d XO (mapE mkV E) cl leR nl3, 7⟩ (fun v st' => ∃ R n', st' = ⟨R, n'⟩ ∧ 7 ≤ n' ∧
      ((v = .lit (.bool true) ∧ LQ = false ∧ ∀ id o, Hp.get (leH d XO (mapE mkV E) cl leR nl3) id = some o → R.get id = some o) ∨
       (v = .lit (.bool false) ∧ LQ = true ∧ ∀ id o, Hp.get (leH d XO (mapE mkV E) cl leRx (intsV N false fl)) id = some o → R.get id = some o))) := by
  obtain ⟨O, hO⟩ : ∃ O : Ar, O = std := ⟨_, rfl⟩
  have hes : ∀ x ∈ mapE mkV E, ∃ p ∈ E, x = (mkV p.1, .lit (.bool true), p.2) := fun x hx => by
    obtain ⟨p, hp, rfl⟩ := List.mem_map.1 hx
    exact ⟨p, hp, rfl⟩
  have hborn : ((mapE mkV E).all (fun x => Nat.blt x.2.2 cl) && Nat.ble cl cl) = true := by
    rw [Bool.and_eq_true]
    refine ⟨List.all_eq_true.2 fun x hx => ?_, by rw [Nat.ble_eq]; exact Nat.le_refl _⟩
    obtain ⟨p, hp, rfl⟩ := hes x hx
    show Nat.ble _ _ = true
    rw [Nat.ble_eq]
    exact hb.1 p hp
  have hmap : (mapE mkV E).map (fun x => x.2.2) = E.map (·.2) := by simp [mapE, List.map_map, Function.comp_def]
  have hborn2 : (Nat.beq cl cl && bornsOk (mapE mkV E)) = true := by
    rw [Nat.beq_refl, Bool.true_and]
    unfold bornsOk
    rw [hmap]
    exact decide_eq_true hb.2
  have hclosed := mapE_closed E
  have hmemE : ∀ p ∈ E, (mkV p.1, AV.lit (.bool true), p.2) ∈ mapE mkV E := fun p hp => List.mem_map.2 ⟨p, hp, rfl⟩
  have hwith : ∀ b : Mk, Pure Try.prog 78 [mkV b, intsV N false fl] (.sb (withinL b N fl)) := fun b => within58_ok b N false fl hl
  have hlb : Below 0 (intsV N false fl) := intsV_below _ _ _
  have hren := fun (ρ : Nat → Nat) (n : Nat) (r : ALoop) => leH_renO (ρ := ρ) (n := n) (r := r) (xs := nl3) d XO E cl hX Below.lit hclosed
  obtain ⟨ME, hME⟩ : ∃ m, mapE mkV E = m := ⟨_, rfl⟩
  rw [hME] at hes hborn hborn2 hmap hclosed hmemE hren ⊢
  refine YieldW.of_round (r := leR) rfl rfl ?_
  refine SW.run tok hO (by cbv <;> rfl) (by trivial) ?_
  refine ⟨leR, rfl, rfl, SW.block ?_⟩
  obtain ⟨RB, hRB⟩ : ∃ r, r = ({ leR with state := .busy } : ALoop) := ⟨_, rfl⟩
  have hRBr : ∀ n, 5 < n → RenO (tabR []) n (.loop RB) (.loop RB) := fun n hn => by rw [hRB]; exact leR_ren (s := .busy) (c := none) rfl rfl rfl rfl hn
  rw [← hRB]
  refine SW.seq (SW.runN tok hO 2 (by cbv <;> rfl) (by trivial) ?_)
  refine OpsW.range tok (kt := 145) (by cbv <;> rfl) (by kernel_rfl) (by rfl) ?_
  refine OpsW.nil ?_
  have hobj : ∀ (st1 : St) (it1 it2 : AObj), it1.fam = none → RenO (tabR []) 8 it2 it1 → (∀ p ∈ ((7, it1) :: leH d XO ME cl RB nl3 : Hp), st1.h.get p.1 = some p.2) → AllP (fun p => p.1 < 8 ∧ ∃ o1, st1.h.get (tabR [] p.1) = some o1 ∧ RenO (tabR []) 8 p.2 o1 ∧ o1.fam = none) ((7, it2) :: leH d XO ME cl RB nl3) := fun st1 it1 it2 hf hr hg => by
    have h2 := hren (tabR []) 8 RB (hRBr 8 (by omega)) rfl (by omega)
    refine ⟨⟨by show 7 < 8; omega, it1, hg _ List.mem_cons_self, hr, hf⟩, ?_⟩
    have h3 : ∀ p ∈ leH d XO ME cl RB nl3, p.1 < 8 ∧ ∃ o1, st1.h.get (tabR [] p.1) = some o1 ∧ RenO (tabR []) 8 p.2 o1 ∧ o1.fam = none := fun p hp => by
      refine ⟨?_, p.2, hg p (List.mem_cons_of_mem _ hp), h2 p hp, ?_⟩
      all_goals
        unfold leH at hp
        simp only [List.mem_cons, List.not_mem_nil, or_false] at hp
        rcases hp with rfl | rfl | rfl | rfl | rfl | rfl | rfl
      all_goals first | rfl | (show _ < 8; omega)
    exact ⟨h3 _ (by simp [leH]), h3 _ (by simp [leH]), h3 _ (by simp [leH]), h3 _ (by simp [leH]), h3 _ (by simp [leH]), h3 _ (by simp [leH]), h3 _ (by simp [leH]), trivial⟩
  refine (SW.block (SW.loopR (fun _ : List (Mk × Nat) => ⟨⟨33, getT [(6, .ptr 3 0), (7, intsV N false fl), (23, .ptr 7 0)]⟩, []⟩) (fun x => ⟨(7, .iter 1 cl (x.map (·.2)) cl) :: leH d XO ME cl RB nl3, 8⟩)
    (fun x => (ME.filter fun y => !((x.map (·.2)).contains y.2.2)).length) (fun x => ∀ p ∈ x, p ∈ E ∧ withinL p.1 N fl = false) [] (fun _ h => nomatch h) (tabR []) ?_ fun x hx => ?_))
  · refine WeakR.tab rfl rfl (by simp) (by rfl) (Nat.le_refl _) (by rfl) ⟨RenV.ptr (by omega), RenV.closed hlb, RenV.ptr (by omega), trivial⟩ (hobj _ _ _ rfl (.iter (by omega)) ?_)
    intro p hp
    unfold leH at hp
    simp only [List.mem_cons, List.not_mem_nil, or_false] at hp
    rcases hp with rfl | rfl | rfl | rfl | rfl | rfl | rfl | rfl <;> rfl
  obtain ⟨S, hS⟩ : ∃ s, x.map (·.2) = s := ⟨_, rfl⟩
  rw [hS]
  refine SW.seq (SW.runN tok hO 0 (by cbv <;> rfl) (by trivial) ?_)
  refine OpsW.nextL (a := .ptr 7 0) (by cbv <;> rfl) (by rfl) (by rfl) hborn (fun hend => ?_) (fun y hy hny => ?_)
  · refine OpsW.run tok hO (by cbv <;> rfl) (by trivial) ?_
    refine SW.seq (SW.cond (t := false) (by cbv <;> rfl) (SW.exit ?_))
    refine ⟨RB, rfl, _, _, rfl, (by show 7 ≤ 8; omega), .inl ⟨rfl, hQ1 fun p hp => ?_, fun id o ho => ?_⟩⟩
    · have hin : p.2 ∈ S := by
        have := List.filter_eq_nil_iff.1 hend _ (hmemE p hp)
        simpa using this
      rw [← hS] at hin
      obtain ⟨q, hq, hqp⟩ := List.mem_map.1 hin
      have h5 : q ∈ E.filter (fun y => Nat.beq y.2 p.2) := List.mem_filter.2 ⟨(hx q hq).1, by show Nat.beq q.2 p.2 = true; rw [hqp]; exact Nat.beq_refl _⟩
      rw [filter_one' (g := fun y : Mk × Nat => y.2) hb.2 hp, List.mem_singleton] at h5
      rw [← h5]
      exact (hx q hq).2
    · have hm := Hp.mem_of_get ho
      unfold leH at hm
      simp only [List.mem_cons, List.not_mem_nil, or_false, Prod.mk.injEq] at hm
      rcases hm with ⟨rfl, rfl⟩ | ⟨rfl, rfl⟩ | ⟨rfl, rfl⟩ | ⟨rfl, rfl⟩ | ⟨rfl, rfl⟩ | ⟨rfl, rfl⟩ | ⟨rfl, rfl⟩ <;> first | rfl | (rw [hRB]; rfl)
  · obtain ⟨p, hp, rfl⟩ := hes y hy
    have hw := hwith p.1
    have hfil : ME.filter (fun x => Nat.beq x.2.2 p.2) = [(mkV p.1, .lit (.bool true), p.2)] := filter_one' (g := fun x : AV × AV × Nat => x.2.2) (x := (mkV p.1, .lit (.bool true), p.2)) (by rw [hmap]; exact hb.2) hy
    have hQ2p := hQ2 p hp
    have hxp : ∀ q ∈ x ++ [p], q ∈ E := fun q hq => by
      rcases List.mem_append.1 hq with hq | hq
      · exact (hx q hq).1
      · rw [List.mem_singleton.1 hq]; exact hp
    have hxw : withinL p.1 N fl = false → ∀ q ∈ x ++ [p], withinL q.1 N fl = false := fun h q hq => by
      rcases List.mem_append.1 hq with hq | hq
      · exact (hx q hq).2
      · rw [List.mem_singleton.1 hq]; exact h
    have hnx : (ME.filter fun y => !(((x ++ [p]).map (·.2)).contains y.2.2)).length < (ME.filter fun y => !((x.map (·.2)).contains y.2.2)).length := by
      refine filter_lt (p := (mkV p.1, AV.lit (.bool true), p.2)) (fun q h => ?_) (hmemE p hp) ?_ ?_
      · simp at h ⊢; exact h.1
      · show (!(x.map (·.2)).contains p.2) = true
        have : S.contains p.2 = false := hny
        rw [hS, this]; rfl
      · show (!((x ++ [p]).map (·.2)).contains p.2) = false
        simp
    rw [hS] at hnx
    have hSx : (x ++ [p]).map (·.2) = S ++ [p.2] := by rw [List.map_append, hS]; rfl
    rw [hSx] at hnx
    generalize withinL p.1 N fl = W at hw hQ2p hxw
    obtain ⟨⟨b0, b1, b2, b3, b4⟩, born⟩ := p
    obtain ⟨S2, hS2⟩ : ∃ s, S ++ [born] = s := ⟨_, rfl⟩
    simp only [hS2] at hnx hSx
    show OpsW _ _ _ _ _ _ ⟨(7, .iter 1 cl (S ++ [born]) cl) :: leH d XO ME cl RB nl3, 8⟩
    rw [hS2]
    refine OpsW.run tok hO (by cbv <;> rfl) (by trivial) ?_
    refine SW.seq (SW.cond (t := true) (by cbv <;> rfl) (SW.skip ?_))
    refine SW.block ?_
    refine SW.seq (SW.runN tok hO 0 (by cbv <;> rfl) (by trivial) ?_)
    have hlast : S2.getLast? = some born := by rw [← hS2]; simp
    refine OpsW.entryL (a := .ptr 7 0) (by cbv <;> rfl) (by rfl) (by rfl) hlast hborn2 hfil ?_
    refine OpsW.run tok hO (by cbv <;> rfl) (by trivial) ?_
    refine SW.seq (SW.runN tok hO 2 (by cbv <;> rfl) (by trivial) ?_)
    refine OpsW.callP hw (by cbv <;> rfl) ?_
    refine OpsW.run tok hO (by cbv <;> rfl) (by trivial) ?_
    refine SW.condS (by cbv <;> rfl) (fun h3 => ?_) (fun h3 => SW.skip ?_)
    · have hW : W = true := h3
      refine SW.seqRun tok hO (by cbv <;> rfl) (by trivial) ?_
      refine SW.exit ?_
      refine ⟨RB, rfl, _, _, rfl, (by show 7 ≤ 9; omega), .inr ⟨rfl, hQ2p hW, fun id o ho => ?_⟩⟩
      have hm := Hp.mem_of_get ho
      unfold leH at hm
      simp only [List.mem_cons, List.not_mem_nil, or_false, Prod.mk.injEq] at hm
      rcases hm with ⟨rfl, rfl⟩ | ⟨rfl, rfl⟩ | ⟨rfl, rfl⟩ | ⟨rfl, rfl⟩ | ⟨rfl, rfl⟩ | ⟨rfl, rfl⟩ | ⟨rfl, rfl⟩ <;> first | rfl | (rw [hRB]; rfl)
    · have hW : W = false := h3
      refine ⟨x ++ [((b0, b1, b2, b3, b4), born)], ?_, fun q hq => ⟨hxp q hq, hxw hW q hq⟩, tabR [], ?_⟩
      · rw [hSx]; exact hnx
      · rw [hSx]
        refine WeakR.tab rfl rfl (by simp) (by rfl) (Nat.le_refl _) (by rfl) ⟨RenV.ptr (by omega), RenV.closed hlb, RenV.ptr (by omega), trivial⟩ (hobj _ _ _ rfl (.iter (by omega)) ?_)
        intro p hp
        unfold leH at hp
        simp only [List.mem_cons, List.not_mem_nil, or_false] at hp
        rcases hp with rfl | rfl | rfl | rfl | rfl | rfl | rfl | rfl <;> rfl
include hX hb in
theorem le_round (l : List Nat) (hl : l.length < 1000) :
    YieldW Try.prog 6 [lsV l] ⟨leH d XO (mapE mkV E) cl leR nl3, 7⟩ (fun v st' => ∃ R n', st' = ⟨R, n'⟩ ∧ 7 ≤ n' ∧
      ((v = .lit (.bool true) ∧ leaveQ E l = false ∧ ∀ id o, Hp.get (leH d XO (mapE mkV E) cl leR nl3) id = some o → R.get id = some o) ∨
       (v = .lit (.bool false) ∧ leaveQ E l = true ∧ ∀ id o, Hp.get (leH d XO (mapE mkV E) cl leRx (lsV l)) id = some o → R.get id = some o))) :=
  le_round0 d XO hX E cl hb l.length (fun i => ((l.getD i 0 : Nat) : Int)) (leaveQ E l) hl (fun h => by
    unfold leaveQ
    rw [List.any_eq_false]
    exact fun p hp => by rw [h p hp]; simp) (fun p hp h => List.any_eq_true.2 ⟨p, hp, h⟩)
end
end Go.Fz
namespace Go.Fz
open Go.Proofs
set_option maxRecDepth 100000
theorem allP_of {α : Type} {Q : α → Prop} : ∀ {l : List α}, (∀ p ∈ l, Q p) → AllP Q l
  | [], _ => trivial
  | x :: l, h => ⟨h x List.mem_cons_self, allP_of fun p hp => h p (List.mem_cons_of_mem _ hp)⟩
theorem risE_len {many : Nat} : ∀ (m : Nat) (p : List Nat) (s : Nat) (l : List Nat), l ∈ risE many m p s → l.length = m + p.length
  | 0, p, s, l, h => by rw [List.mem_singleton.1 h]; omega
  | m + 1, p, s, l, h => by
    obtain ⟨c, _, hc⟩ := List.mem_flatMap.1 h
    have := risE_len m _ _ _ hc
    rw [List.length_append, List.length_singleton] at this
    omega
theorem risL_len {many : Nat} {l : List Nat} (h : l ∈ risL many) : l.length ≤ many := by
  obtain ⟨m, hm, hl⟩ := List.mem_flatMap.1 h
  have := risE_len _ _ _ _ hl
  have := List.mem_range.1 hm
  simp at *
  omega
section
variable (d : DayD) (XO : AV) (E : List (Mk × Nat)) (cl : Nat)
def leK (seen : List (List Nat)) (h : Hp) (n : Nat) : Prop := h = leH d XO (mapE mkV E) cl leR nl3 ∧ 53 ≤ n ∧ ∀ l ∈ seen, leaveQ E l = false
def leS (seen : List (List Nat)) (l : List Nat) (h : Hp) (n : Nat) : Prop := h = leH d XO (mapE mkV E) cl leRx (lsV l) ∧ 53 ≤ n ∧ (∀ l' ∈ seen, leaveQ E l' = false) ∧ leaveQ E l = true
theorem leH_mem {ME : List (AV × AV × Nat)} {r : ALoop} {xs : AV} {p : Nat × AObj} (hp : p ∈ leH d XO ME cl r xs) : p.1 < 7 ∧ p.2.fam = none ∧ p.2.own = true ∧ Hp.get (leH d XO ME cl r xs) p.1 = some p.2 := by
  unfold leH at hp
  simp only [List.mem_cons, List.not_mem_nil, or_false] at hp
  rcases hp with rfl | rfl | rfl | rfl | rfl | rfl | rfl
  all_goals exact ⟨by show _ < 7; omega, rfl, rfl, rfl⟩
def sg7 (n2 i : Nat) : Nat := match Nat.blt i 7 with
  | true => i
  | false => n2 + i
theorem sg7_lo {n2 i : Nat} (h : i < 7) : sg7 n2 i = i := by
  have : Nat.blt i 7 = true := by rw [Nat.blt_eq]; exact h
  unfold sg7; rw [this]
theorem sg7_hi {n2 i : Nat} (h : ¬ i < 7) : sg7 n2 i = n2 + i := by
  have : Nat.blt i 7 = false := by rw [← Bool.not_eq_true, Nat.blt_eq]; exact h
  unfold sg7; rw [this]
theorem le_back (hX : Below 0 XO) {xs : AV} (hxs : Below 0 xs) (s : LoopState) (c : Option Code) {R : Hp} {n n2 : Nat} (hn : 53 ≤ n) (hg : ∀ id o, Hp.get (leH d XO (mapE mkV E) cl { leR with state := s, pending := c } xs) id = some o → R.get id = some o) :
    WeakX (sg7 n2) ⟨R, n2 + n⟩ ⟨leH d XO (mapE mkV E) cl { leR with state := s, pending := c } xs, n⟩ := by
  refine WeakX.of (fun _ => none) (fun i j f h => by cases h) (fun p hp q hq h => ?_) (allP_of fun p hp => ?_)
  · rw [sg7_lo (leH_mem _ _ _ hp).1, sg7_lo (leH_mem _ _ _ hq).1] at h
    exact h
  · obtain ⟨k1, k2, k3, k4⟩ := leH_mem _ _ _ hp
    refine ⟨by omega, p.2, ?_, .base (leH_renO d XO E cl hX hxs (mapE_closed E) (leR_ren (s := s) (c := c) rfl rfl rfl rfl (by omega)) rfl (by omega) p hp), k2⟩
    rw [sg7_lo k1]
    exact hg _ _ k4
theorem le_core (hX : Below 0 XO) (hb : Born E cl) (l : List Nat) (hl : l.length < 1000) (n : Nat) (hn : 53 ≤ n) :
    YieldW Try.prog 6 [lsV l] ⟨leH d XO (mapE mkV E) cl leR nl3, n⟩ (fun v st' => (v = .lit (.bool true) ∧ leaveQ E l = false ∧ st' = ⟨leH d XO (mapE mkV E) cl leR nl3, n⟩) ∨ (v = .lit (.bool false) ∧ leaveQ E l = true ∧ st' = ⟨leH d XO (mapE mkV E) cl leRx (lsV l), n⟩)) := by
  refine YieldW.canon (ρ := fun i => i) (st2 := ⟨leH d XO (mapE mkV E) cl leR nl3, 7⟩) rfl (by show 6 < 7; omega) (fun x hx => by rw [List.mem_singleton.1 hx]; exact lsV_below l) ?_ (le_round d XO hX E cl hb l hl) fun v st2' hk => ?_
  · refine WeakX.of (fun _ => none) (fun i j f h => by cases h) (fun p hp q hq h => h) (allP_of fun p hp => ?_)
    obtain ⟨k1, k2, k3, k4⟩ := leH_mem _ _ _ hp
    exact ⟨k1, p.2, k4, .base (leH_renO d XO E cl hX Below.lit (mapE_closed E) (leR_ren (s := leR.state) (c := leR.pending) rfl rfl rfl rfl (by omega)) rfl (by omega) p hp), k2⟩
  · obtain ⟨R, n', rfl, hn', hk⟩ := hk
    have hσ : ∀ id, id < n → (sg7 n' id = id ∧ (fun i : Nat => i) id = id ∧ id < 7) ∨ sg7 n' id = n' + id := fun id _ => by
      by_cases h : id < 7
      · exact .inl ⟨sg7_lo h, rfl, h⟩
      · exact .inr (sg7_hi h)
    rcases hk with ⟨rfl, hq, hg⟩ | ⟨rfl, hq, hg⟩
    · exact ⟨⟨⟨leH d XO (mapE mkV E) cl leR nl3, n⟩, sg7 n', .inl ⟨rfl, hq, rfl⟩, Below.lit, Nat.le_refl _, le_back d XO E cl hX Below.lit leR.state leR.pending hn hg, hσ⟩⟩
    · exact ⟨⟨⟨leH d XO (mapE mkV E) cl leRx (lsV l), n⟩, sg7 n', .inr ⟨rfl, hq, rfl⟩, Below.lit, Nat.le_refl _, le_back d XO E cl hX (lsV_below l) .done (some (.exit 0)) hn hg, hσ⟩⟩
theorem le_step (hX : Below 0 XO) (hb : Born E cl) : rsStep (leK d XO E cl) (leS d XO E cl) (fun l => l.length < 1000) 6 := fun seen l h n R hK hok hR => by
  obtain ⟨rfl, hn, hs⟩ := hK
  have ha : Apart R ⟨leH d XO (mapE mkV E) cl leR nl3, n⟩ := ⟨fun id o ho => (hR _ (Hp.mem_of_get ho)).2.2, fun id o ho => by
    cases hg : Hp.get (leH d XO (mapE mkV E) cl leR nl3) id with
    | none => rfl
    | some o' =>
      have h1 : id < 7 := (leH_mem _ _ _ (Hp.mem_of_get hg)).1
      have h2 : 49 ≤ id := (hR _ (Hp.mem_of_get ho)).1
      omega, fun i j oi oj hi hj ⟨f, _, k2⟩ => by
    have h2 : oj.fam = none := (leH_mem _ _ _ (Hp.mem_of_get hj)).2.1
    rw [h2] at k2; cases k2⟩
  refine (YieldW.frame ha (le_core d XO E cl hX hb l hok n hn) fun v st' hk id o ho => .inl ?_).mono fun v s hk => ?_
  · rcases hk with ⟨_, _, rfl⟩ | ⟨_, _, rfl⟩ <;> exact (leH_mem _ _ _ (Hp.mem_of_get ho)).2.2.1
  · obtain ⟨st', hk, rfl⟩ := hk
    rcases hk with ⟨rfl, hq, rfl⟩ | ⟨rfl, hq, rfl⟩
    · refine .inl ⟨rfl, _, n, Nat.le_refl _, rfl, rfl, hn, fun l' hl' => ?_⟩
      rcases List.mem_append.1 hl' with hl' | hl'
      · exact hs l' hl'
      · rw [List.mem_singleton.1 hl']; exact hq
    · exact .inr ⟨rfl, _, n, Nat.le_refl _, rfl, rfl, hn, hs, hq⟩
end
end Go.Fz
namespace Go.Fz
open Go.Proofs
set_option maxRecDepth 100000
noncomputable def feParts : Code × Code := match findRF (bodyF Try.f27) with
  | some p => p
  | none => (.skip, .skip)
def feL : List (Nat × AV) := [(2, .ptr 1 0), (3, .ptr 2 0), (4, .ptr 4 0), (19, .fn (.func 101) [] [.ptr 5 0])]
noncomputable def feR : ALoop := { state := .ready, pending := none, tmps := ⟨25, getT feL⟩, params := #[20], assign := feParts.1, body := feParts.2, dfid := 6 }
noncomputable def feRx : ALoop := { feR with state := .done, pending := some .ret }
def feH (d : DayD) (L : Nat) (G : Nat → Nat → AV) (ME : List (AV × AV × Nat)) (cl : Nat) (r : ALoop) (xs es : AV) : Hp :=
  [(7, .loop r), (6, .dfr), (5, .cells none false [iV (d.nw : Int)]), (4, .cells none false [iV d.hand, iV d.flat, womsV d, lotsV d, cntsV d, .isl L 8 false G, .mp 3]), (3, .map ME cl), (2, .cells none false [es]), (1, .cells none false [xs]), (0, .cells none false (dayC d))]
section
variable (d : DayD) (L : Nat) (G : Nat → Nat → AV) (ME : List (AV × AV × Nat)) (cl : Nat)
theorem feH_renO {ρ : Nat → Nat} {n : Nat} {r : ALoop} {xs es : AV} (hG : Below 0 (.isl L 8 false G)) (hxs : Below 0 xs) (hes : Below 0 es) (hclosed : ∀ x ∈ ME, Below 0 x.1 ∧ Below 0 x.2.1) (hr : RenO ρ n (.loop r) (.loop r)) (h1 : ρ 3 = 3) (hn : 3 < n) :
    ∀ p ∈ feH d L G ME cl r xs es, RenO ρ n p.2 p.2 := fun p hp => by
  have hmp : RenV ρ n (.mp 3) (.mp 3) := by
    have := RenV.mp (ρ := ρ) (n := n) (j := 3) hn
    rwa [h1] at this
  unfold feH at hp
  simp only [List.mem_cons, List.not_mem_nil, or_false] at hp
  rcases hp with rfl | rfl | rfl | rfl | rfl | rfl | rfl | rfl
  · exact hr
  · exact .dfr
  · exact .cells (.cons (RenV.closed Below.lit) .nil)
  · exact .cells (.cons (RenV.closed Below.lit) (.cons (RenV.closed Below.lit) (.cons (RenV.closed (womsV_below d)) (.cons (RenV.closed (lotsV_below d)) (.cons (RenV.closed (cntsV_below d)) (.cons (RenV.closed hG) (.cons hmp .nil)))))))
  · exact .map hclosed
  · exact .cells (.cons (RenV.closed hes) .nil)
  · exact .cells (.cons (RenV.closed hxs) .nil)
  · exact .cells (RenVs.closed (dayC_below d))
theorem feR_ren {ρ : Nat → Nat} {n : Nat} {s : LoopState} {c : Option Code} (h1 : ρ 1 = 1) (h2 : ρ 2 = 2) (h4 : ρ 4 = 4) (h5 : ρ 5 = 5) (h6 : ρ 6 = 6) (hn : 6 < n) : RenO ρ n (.loop { feR with state := s, pending := c }) (.loop { feR with state := s, pending := c }) := by
  have hp : ∀ j, j < n → ρ j = j → RenV ρ n (.ptr j 0) (.ptr j 0) := fun j hj e => by
    have := RenV.ptr (ρ := ρ) (n := n) (j := j) (off := 0) hj
    rwa [e] at this
  exact .loop rfl rfl rfl rfl rfl (by show 6 = ρ 6; rw [h6]) (by show 6 < n; exact hn) rfl (RenV.getT (l := feL) ⟨hp 1 (by omega) h1, hp 2 (by omega) h2, hp 4 (by omega) h4, RenV.fn .nil (.cons (hp 5 (by omega) h5) .nil), trivial⟩)
set_option maxHeartbeats 16000000 in
theorem fe_round0 (N : Nat) (fl : Nat → Int) (Q : Bool) (hset : Pure Try.prog 75 [.agg [iV d.hand, iV d.flat, womsV d, lotsV d, cntsV d, .isl L 8 false G, .any], intsV N false fl] (.lit (.bool Q))) :
    YieldW Try.prog 7 [intsV N false fl] ⟨feH d L G ME cl feR nl3 (iV 0), 8⟩ (fun v st' =>
      (v = .lit (.bool true) ∧ Q = false ∧ st' = ⟨feH d L G ME cl feR nl3 (iV 0), 8⟩) ∨ (v = .lit (.bool false) ∧ Q = true ∧ st' = ⟨feH d L G ME cl feRx (intsV N false fl) (iV 0), 8⟩)) := by
  obtain ⟨O, hO⟩ : ∃ O : Ar, O = std := ⟨_, rfl⟩
  refine YieldW.of_round (r := feR) rfl rfl ?_
  refine SW.run tok hO (by cbv <;> rfl) (by trivial) ?_
  refine ⟨feR, rfl, rfl, SW.block ?_⟩
  obtain ⟨RB, hRB⟩ : ∃ r, r = ({ feR with state := .busy } : ALoop) := ⟨_, rfl⟩
  rw [← hRB]
  refine SW.seqRun tok hO (by cbv <;> rfl) (by trivial) ?_
  refine OpsW.callP (Pure.eqv hset ?_) (by cbv <;> rfl) ?_
  · exact .cons (Eqv.agg (.cons (Eqv.refl _) (.cons (Eqv.refl _) (.cons (Eqv.refl _) (.cons (Eqv.refl _) (.cons (Eqv.refl _) (.cons (Eqv.refl _) (.cons (fun _ _ _ => .any _) .nil)))))))) (.cons (Eqv.refl _) .nil)
  cases Q with
  | false =>
    refine OpsW.run tok hO (by cbv <;> rfl) (by trivial) ?_
    refine SW.cond (t := false) (by cbv <;> rfl) (SW.skip ?_)
    refine ⟨RB, rfl, .inl ⟨rfl, rfl, ?_⟩⟩
    rw [hRB]; rfl
  | true =>
    refine OpsW.run tok hO (by cbv <;> rfl) (by trivial) ?_
    refine SW.cond (t := true) (by cbv <;> rfl) ?_
    refine SW.seqRun tok hO (by cbv <;> rfl) (by trivial) ?_
    refine SW.ret ⟨RB, rfl, .inr ⟨rfl, rfl, ?_⟩⟩
    rw [hRB]; rfl
end
end Go.Fz
namespace Go.Fz
open Go.Proofs
set_option maxRecDepth 100000
def sgN (b n2 i : Nat) : Nat := match Nat.blt i b with
  | true => i
  | false => n2 + i
theorem sgN_lo {b n2 i : Nat} (h : i < b) : sgN b n2 i = i := by
  have : Nat.blt i b = true := by rw [Nat.blt_eq]; exact h
  unfold sgN; rw [this]
theorem sgN_hi {b n2 i : Nat} (h : ¬ i < b) : sgN b n2 i = n2 + i := by
  have : Nat.blt i b = false := by rw [← Bool.not_eq_true, Nat.blt_eq]; exact h
  unfold sgN; rw [this]
section
variable (d : DayD) (L : Nat) (G : Nat → Nat → AV) (ME : List (AV × AV × Nat)) (cl : Nat) (Q : List Nat → Bool)
def feK (seen : List (List Nat)) (h : Hp) (n : Nat) : Prop := h = feH d L G ME cl feR nl3 (iV 0) ∧ 53 ≤ n ∧ ∀ l ∈ seen, Q l = false
def feS (seen : List (List Nat)) (l : List Nat) (h : Hp) (n : Nat) : Prop := h = feH d L G ME cl feRx (lsV l) (iV 0) ∧ 53 ≤ n ∧ (∀ l' ∈ seen, Q l' = false) ∧ Q l = true
variable {d L G ME cl}
theorem feH_mem {r : ALoop} {xs es : AV} {p : Nat × AObj} (hp : p ∈ feH d L G ME cl r xs es) : p.1 < 8 ∧ p.2.fam = none ∧ p.2.own = true ∧ Hp.get (feH d L G ME cl r xs es) p.1 = some p.2 := by
  unfold feH at hp
  simp only [List.mem_cons, List.not_mem_nil, or_false] at hp
  rcases hp with rfl | rfl | rfl | rfl | rfl | rfl | rfl | rfl
  all_goals exact ⟨by show _ < 8; omega, rfl, rfl, rfl⟩
theorem fe_back (hG : Below 0 (.isl L 8 false G)) (hclosed : ∀ x ∈ ME, Below 0 x.1 ∧ Below 0 x.2.1) {xs : AV} (hxs : Below 0 xs) (s : LoopState) (c : Option Code) {n n2 : Nat} (hn : 53 ≤ n) :
    WeakX (sgN 8 n2) ⟨feH d L G ME cl { feR with state := s, pending := c } xs (iV 0), n2 + n⟩ ⟨feH d L G ME cl { feR with state := s, pending := c } xs (iV 0), n⟩ := by
  refine WeakX.of (fun _ => none) (fun i j f h => by cases h) (fun p hp q hq h => ?_) (allP_of fun p hp => ?_)
  · rw [sgN_lo (feH_mem hp).1, sgN_lo (feH_mem hq).1] at h
    exact h
  · obtain ⟨k1, k2, k3, k4⟩ := feH_mem hp
    refine ⟨by omega, p.2, ?_, .base (feH_renO d L G ME cl hG hxs Below.lit hclosed (feR_ren (s := s) (c := c) rfl rfl rfl rfl rfl (by omega)) rfl (by omega) p hp), k2⟩
    rw [sgN_lo k1]
    exact k4
theorem fe_core (hG : Below 0 (.isl L 8 false G)) (hclosed : ∀ x ∈ ME, Below 0 x.1 ∧ Below 0 x.2.1) (l : List Nat) (hset : Pure Try.prog 75 [.agg [iV d.hand, iV d.flat, womsV d, lotsV d, cntsV d, .isl L 8 false G, .any], lsV l] (.lit (.bool (Q l)))) (n : Nat) (hn : 53 ≤ n) :
    YieldW Try.prog 7 [lsV l] ⟨feH d L G ME cl feR nl3 (iV 0), n⟩ (fun v st' => (v = .lit (.bool true) ∧ Q l = false ∧ st' = ⟨feH d L G ME cl feR nl3 (iV 0), n⟩) ∨ (v = .lit (.bool false) ∧ Q l = true ∧ st' = ⟨feH d L G ME cl feRx (lsV l) (iV 0), n⟩)) := by
  refine YieldW.canon (ρ := fun i => i) (st2 := ⟨feH d L G ME cl feR nl3 (iV 0), 8⟩) rfl (by show 7 < 8; omega) (fun x hx => by rw [List.mem_singleton.1 hx]; exact lsV_below l) ?_ (fe_round0 d L G ME cl l.length (fun i => ((l.getD i 0 : Nat) : Int)) (Q l) hset) fun v st2' hk => ?_
  · refine WeakX.of (fun _ => none) (fun i j f h => by cases h) (fun p hp q hq h => h) (allP_of fun p hp => ?_)
    obtain ⟨k1, k2, k3, k4⟩ := feH_mem hp
    exact ⟨k1, p.2, k4, .base (feH_renO d L G ME cl hG Below.lit Below.lit hclosed (feR_ren (s := feR.state) (c := feR.pending) rfl rfl rfl rfl rfl (by omega)) rfl (by omega) p hp), k2⟩
  · have hσ : ∀ id, id < n → (sgN 8 8 id = id ∧ (fun i : Nat => i) id = id ∧ id < 8) ∨ sgN 8 8 id = 8 + id := fun id _ => by
      by_cases h : id < 8
      · exact .inl ⟨sgN_lo h, rfl, h⟩
      · exact .inr (sgN_hi h)
    rcases hk with ⟨rfl, hq, rfl⟩ | ⟨rfl, hq, rfl⟩
    · exact ⟨⟨⟨feH d L G ME cl feR nl3 (iV 0), n⟩, sgN 8 8, .inl ⟨rfl, hq, rfl⟩, Below.lit, Nat.le_refl _, fe_back hG hclosed Below.lit feR.state feR.pending hn, hσ⟩⟩
    · exact ⟨⟨⟨feH d L G ME cl feRx (lsV l) (iV 0), n⟩, sgN 8 8, .inr ⟨rfl, hq, rfl⟩, Below.lit, Nat.le_refl _, fe_back hG hclosed (lsV_below l) .done (some .ret) hn, hσ⟩⟩
theorem fe_step (hG : Below 0 (.isl L 8 false G)) (hclosed : ∀ x ∈ ME, Below 0 x.1 ∧ Below 0 x.2.1) (ok : List Nat → Prop) (hset : ∀ l, ok l → Pure Try.prog 75 [.agg [iV d.hand, iV d.flat, womsV d, lotsV d, cntsV d, .isl L 8 false G, .any], lsV l] (.lit (.bool (Q l)))) :
    rsStep (feK d L G ME cl Q) (feS d L G ME cl Q) ok 7 := fun seen l h n R hK hok hR => by
  obtain ⟨rfl, hn, hs⟩ := hK
  have ha : Apart R ⟨feH d L G ME cl feR nl3 (iV 0), n⟩ := ⟨fun id o ho => (hR _ (Hp.mem_of_get ho)).2.2, fun id o ho => by
    cases hg : Hp.get (feH d L G ME cl feR nl3 (iV 0)) id with
    | none => rfl
    | some o' =>
      have h1 : id < 8 := (feH_mem (Hp.mem_of_get hg)).1
      have h2 : 49 ≤ id := (hR _ (Hp.mem_of_get ho)).1
      omega, fun i j oi oj hi hj ⟨f, _, k2⟩ => by
    have h2 : oj.fam = none := (feH_mem (Hp.mem_of_get hj)).2.1
    rw [h2] at k2; cases k2⟩
  refine (YieldW.frame ha (fe_core Q hG hclosed l (hset l hok) n hn) fun v st' hk id o ho => .inl ?_).mono fun v s hk => ?_
  · rcases hk with ⟨_, _, rfl⟩ | ⟨_, _, rfl⟩ <;> exact (feH_mem (Hp.mem_of_get ho)).2.2.1
  · obtain ⟨st', hk, rfl⟩ := hk
    rcases hk with ⟨rfl, hq, rfl⟩ | ⟨rfl, hq, rfl⟩
    · refine .inl ⟨rfl, _, n, Nat.le_refl _, rfl, rfl, hn, fun l' hl' => ?_⟩
      rcases List.mem_append.1 hl' with hl' | hl'
      · exact hs l' hl'
      · rw [List.mem_singleton.1 hl']; exact hq
    · exact .inr ⟨rfl, _, n, Nat.le_refl _, rfl, rfl, hn, hs, hq⟩
end
def fewV (Q : List Nat → Bool) (many : Nat) : AV := match (risL many).find? Q with
  | some l => lsV l
  | none => nl3
def fewE (Q : List Nat → Bool) (many : Nat) : Int := match (risL many).find? Q with
  | some _ => 0
  | none => 10
theorem fewV_below (Q : List Nat → Bool) (many : Nat) : Below 0 (fewV Q many) := by
  unfold fewV; split
  · exact lsV_below _
  · exact Below.lit
set_option maxHeartbeats 16000000 in
theorem fewest_core (d : DayD) (L : Nat) (G : Nat → Nat → AV) (ME : List (AV × AV × Nat)) (cl : Nat) (Q : List Nat → Bool) (hG : Below 0 (.isl L 8 false G)) (hclosed : ∀ x ∈ ME, Below 0 x.1 ∧ Below 0 x.2.1) (hnw : d.nw < 100)
    (hset : ∀ l ∈ risL d.nw, Pure Try.prog 75 [.agg [iV d.hand, iV d.flat, womsV d, lotsV d, cntsV d, .isl L 8 false G, .any], lsV l] (.lit (.bool (Q l))))
    (e2 : Fresh Try.prog 57 [dayV d, .lit (.bool true)] (fun k => .tup [.agg [iV d.hand, iV d.flat, womsV d, lotsV d, cntsV d, .isl L 8 false G, .mp k], iV 0]) ME cl) :
    Pure Try.prog 27 [dayV d] (.tup [fewV Q d.nw, iV (fewE Q d.nw)]) := by
  obtain ⟨O, hO⟩ : ∃ O : Ar, O = std := ⟨_, rfl⟩
  refine pure_of_body tok 3 Try.func27 en27 rfl ⟨dayV_below d, trivial⟩ (Below.tup (AllB.ok ⟨fewV_below _ _, Below.lit, trivial⟩)) ?_
  have hris := rising101 (K := feK d L G ME cl Q) (stop := feS d L G ME cl Q) (ok := fun l => l ∈ risL d.nw) (mc := 5) (y := 7) (many := d.nw) (by omega) hnw (fun s h n hk => by
      obtain ⟨rfl, hn, _⟩ := hk
      exact ⟨hn, fun x hx => by obtain ⟨k1, k2, _⟩ := feH_mem hx; exact ⟨by omega, k2⟩, none, false, rfl⟩)
    (fun s l h n hk => by
      obtain ⟨rfl, hn, _⟩ := hk
      exact ⟨hn, fun x hx => by have := (feH_mem hx).1; omega⟩)
    (fun s h n n' hk hle => by
      obtain ⟨rfl, hn, hs⟩ := hk
      exact ⟨rfl, by omega, hs⟩) (fun l hl => hl) (fe_step Q hG hclosed _ hset) (feH d L G ME cl feR nl3 (iV 0)) 8 (by omega) ⟨rfl, by omega, fun _ h => nomatch h⟩
  have hfinN : (∀ l ∈ risL d.nw, Q l = false) → fewV Q d.nw = nl3 ∧ fewE Q d.nw = 10 := fun h => by
    unfold fewV fewE
    rw [List.find?_eq_none.2 fun l hl => by rw [h l hl]; simp]
    exact ⟨rfl, rfl⟩
  have hfinS : ∀ pre l post, risL d.nw = pre ++ l :: post → (∀ l' ∈ pre, Q l' = false) → Q l = true → fewV Q d.nw = lsV l ∧ fewE Q d.nw = 0 := fun pre l post h1 h2 h3 => by
    unfold fewV fewE
    rw [h1, List.find?_append, List.find?_eq_none.2 fun l hl => by rw [h2 l hl]; simp, List.find?_cons, h3]
    exact ⟨rfl, rfl⟩
  generalize fewV Q d.nw = FV at hfinN hfinS ⊢
  generalize fewE Q d.nw = FE at hfinN hfinS ⊢
  unfold feK feS at hris
  refine SW.seqRun tok hO (by cbv <;> rfl) (by trivial) ?_
  refine SW.seq (SW.runN tok hO 1 (by cbv <;> rfl) (by trivial) ?_)
  refine OpsW.callS e2.ent (e2.call _) (by cbv <;> rfl) fun v st' hk => ?_
  obtain ⟨rfl, rfl⟩ := hk
  refine OpsW.run tok hO (by cbv <;> rfl) (by trivial) ?_
  refine SW.seq ?_
  refine SW.seqRun tok hO (by cbv <;> rfl) (by trivial) ?_
  refine SW.condS (by cbv <;> rfl) (fun h1 => ?_) (fun h1 => SW.skip ?_)
  · exfalso
    subst hO; simp [std] at h1
  refine SW.seq ?_
  refine SW.seqRun tok hO (by cbv <;> rfl) (by trivial) ?_
  refine OpsW.callS en74 (rising74 (many := d.nw) _ _) (by cbv <;> rfl) fun v st' hk => ?_
  obtain ⟨rfl, rfl⟩ := hk
  refine OpsW.run tok hO (by cbv <;> rfl) (by trivial) ?_
  refine SW.block ?_
  refine SW.pre (f2 := ⟨⟨25, getT feL⟩, []⟩) (st2 := ⟨[(5, .cells none false [iV (d.nw : Int)]), (4, .cells none false [iV d.hand, iV d.flat, womsV d, lotsV d, cntsV d, .isl L 8 false G, .mp 3]), (3, .map ME cl), (2, .cells none false [iV 0]), (1, .cells none false [nl3]), (0, .cells none false (dayC d))], 6⟩) ?_ ?_
  · exact Weak.by rfl rfl (fun _ h => nomatch h) (Nat.le_refl _) (Nat.le_refl _) ⟨⟨rfl, .inl rfl⟩, ⟨rfl, .inl rfl⟩, ⟨rfl, .inl rfl⟩, ⟨rfl, .inl rfl⟩, trivial⟩ ⟨⟨rfl, by show _ < 6; omega, .inl rfl⟩, ⟨rfl, by show _ < 6; omega, .inl rfl⟩, ⟨rfl, by show _ < 6; omega, .inl rfl⟩, ⟨rfl, by show _ < 6; omega, .inl rfl⟩, ⟨rfl, by show _ < 6; omega, .inl rfl⟩, ⟨rfl, by show _ < 6; omega, .inl rfl⟩, trivial⟩
  refine SW.rangeFunc (gf := 101) (first := []) (caps := [.ptr 5 0]) (by rfl) en101 ?_
  refine CallW.mono (show CallW Try.prog 101 [.yld 7, .ptr 5 0] ⟨feH d L G ME cl feR nl3 (iV 0), 8⟩ _ from hris) fun v st' hk => ?_
  obtain ⟨h, n, rfl, hk | ⟨pre, l, post, hE, hk⟩⟩ := hk
  · obtain ⟨rfl, hn, hseen⟩ := hk
    refine ⟨feR, rfl, (fun h => by simp [feR] at h), ?_⟩
    obtain ⟨e3, e4⟩ := hfinN hseen
    rw [e3, e4]
    show SW _ _ _ _ _ _
    refine SW.seqRun tok hO (by cbv <;> rfl) (by trivial) ?_
    exact SW.ret ⟨_, _, rfl, rfl, Eqv.of rfl⟩
  · obtain ⟨rfl, hn, hpre, hl⟩ := hk
    refine ⟨feRx, rfl, (fun h => by simp [feRx, feR] at h), ?_⟩
    obtain ⟨e3, e4⟩ := hfinS pre l post hE hpre hl
    rw [e3, e4]
    obtain ⟨N, fl, hlv⟩ : ∃ N fl, lsV l = intsV N false fl := ⟨_, _, rfl⟩
    rw [hlv]
    exact SW.ret ⟨_, _, rfl, rfl, Eqv.of rfl⟩
end Go.Fz
namespace Go.Fz
open Go.Proofs
set_option maxRecDepth 100000
theorem between_ok (a b : Int) : Pure Try.prog 37 [iV a, iV b] (rangeV a b) := by
  obtain ⟨O, hO⟩ : ∃ O : Ar, O = std := ⟨_, rfl⟩
  refine pure_of_body tok 3 Try.func37 en37 rfl ⟨Below.lit, Below.lit, trivial⟩ rangeV_below ?_
  refine SW.seqRun tok hO (by cbv <;> rfl) (by trivial) ?_
  refine SW.seqRun tok hO (by cbv <;> rfl) (by trivial) ?_
  exact SW.ret ⟨_, _, rfl, rfl, Eqv.of rfl⟩
def pick2 (a b : Int) (i : Nat) : Int := if i = 0 then a else b
def twoD (k : Nat) : DayD := { hand := 6, flat := 4, nw := 2, wlo := pick2 20 25, whi := pick2 22 25, nl := 2, lw := pick2 0 1, llo := pick2 500 610, lhi := pick2 502 610, nc := k, ck := pick2 4 1, cw := pick2 0 0, clo := pick2 2 5, chi := pick2 2 9 }
set_option maxHeartbeats 16000000 in
theorem two_ok0 : Pure Try.prog 35 [iV 0] (dayV (twoD 0)) := by
  obtain ⟨O, hO⟩ : ∃ O : Ar, O = std := ⟨_, rfl⟩
  have ha := between_ok 2 2
  have hb := between_ok 5 9
  have h0 := between_ok 20 22
  have h1 := between_ok 25 25
  have h3 := between_ok 500 502
  have h5 := between_ok 610 610
  refine pure_of_body tok 4 Try.func35 en35 rfl ⟨Below.lit, trivial⟩ (dayV_below _) ?_
  refine SW.seqRun tok hO (by cbv <;> rfl) (by trivial) ?_
  refine SW.seqRun tok hO (by cbv <;> rfl) (by trivial) ?_
  refine OpsW.callP ha (by cbv <;> rfl) ?_
  refine OpsW.run tok hO (by cbv <;> rfl) (by trivial) ?_
  refine OpsW.callP hb (by cbv <;> rfl) ?_
  refine OpsW.run tok hO (by cbv <;> rfl) (by trivial) ?_
  refine SW.seqRunD tok mixed hO (by kernel_rfl) (by cbv <;> rfl) (by trivial) ?_
  refine AnyE.take (r := .sl 1 0 0 4 (Nat.beq 0 2)) (by kernel_rfl) tok 10 rfl (by cbv <;> rfl) (by cbv <;> rfl) ?_
  refine AnyE.run tok hO (by rfl) (by cbv <;> rfl) (by trivial) ?_
  refine AnyE.callP h0 (by cbv <;> rfl) (by cbv <;> rfl) ?_
  refine AnyE.run tok hO (by rfl) (by cbv <;> rfl) (by trivial) ?_
  refine AnyE.callP h1 (by cbv <;> rfl) (by cbv <;> rfl) ?_
  refine AnyE.run tok hO (by rfl) (by cbv <;> rfl) (by trivial) ?_
  refine AnyE.many [2, 3] (by cbv <;> rfl) (by rfl) ⟨?_, ?_, trivial⟩
  · refine PickE.eff tok hO (by cbv <;> rfl) (by cbv <;> rfl) (by trivial) ?_ ?_
    · exact (by repeat (first | exact trivial | refine And.intro (by first | exact lv_of hO (by cbv <;> rfl) (by trivial) | (cbv <;> rfl)) ?_))
    refine AnyE.run tok hO (by rfl) (by cbv <;> rfl) (by trivial) ?_
    refine AnyE.callP h3 (by cbv <;> rfl) (by cbv <;> rfl) ?_
    refine AnyE.run tok hO (by rfl) (by cbv <;> rfl) (by trivial) ?_
    refine AnyE.callP h5 (by cbv <;> rfl) (by cbv <;> rfl) ?_
    refine AnyE.run tok hO (by rfl) (by cbv <;> rfl) (by trivial) ?_
    refine AnyE.effK tok hO (by cbv <;> rfl) (by cbv <;> rfl) (by trivial) ?_ ?_
    · exact (by repeat (first | exact trivial | refine And.intro (by first | exact lv_of hO (by cbv <;> rfl) (by trivial) | (cbv <;> rfl)) ?_))
    refine AnyE.run tok hO (by rfl) (by cbv <;> rfl) (by trivial) ?_
    refine AnyE.effK tok hO (by cbv <;> rfl) (by cbv <;> rfl) (by trivial) ?_ ?_
    · exact (by repeat (first | exact trivial | refine And.intro (by first | exact lv_of hO (by cbv <;> rfl) (by trivial) | (cbv <;> rfl)) ?_))
    refine AnyE.run tok hO (by rfl) (by cbv <;> rfl) (by trivial) ?_
    refine SW.ret ⟨_, _, rfl, rfl, ?_⟩
    exact Eqv.agg (.cons (Eqv.of rfl) (.cons (Eqv.of rfl) (.cons (by (first | refine Eqv.isl rfl fun i j hi hj => ?_ | refine Eqv.trans Eqv.islX (Eqv.isl rfl fun i j hi hj => ?_)) <;> (obtain rfl | rfl : i = 0 ∨ i = 1 := by omega) <;> (obtain rfl | rfl | rfl | rfl : j = 0 ∨ j = 1 ∨ j = 2 ∨ j = 3 := by omega) <;> first | exact Eqv.of rfl | omega) (.cons (by (first | refine Eqv.isl rfl fun i j hi hj => ?_ | refine Eqv.trans Eqv.islX (Eqv.isl rfl fun i j hi hj => ?_)) <;> (obtain rfl | rfl : i = 0 ∨ i = 1 := by omega) <;> (obtain rfl | rfl | rfl | rfl : j = 0 ∨ j = 1 ∨ j = 2 ∨ j = 3 := by omega) <;> first | exact Eqv.of rfl | omega) (.cons (by (first | refine Eqv.isl rfl fun i j hi hj => ?_ | refine Eqv.trans Eqv.islX (Eqv.isl rfl fun i j hi hj => ?_)) <;> (obtain rfl | rfl : i = 0 ∨ i = 1 := by omega) <;> (obtain rfl | rfl | rfl | rfl : j = 0 ∨ j = 1 ∨ j = 2 ∨ j = 3 := by omega) <;> first | exact Eqv.of rfl | omega) .nil)))))
  · refine PickE.callQ h3 (by cbv <;> rfl) (by cbv <;> rfl) ?_ ?_
    · exact (by repeat (first | exact trivial | refine And.intro (by first | exact lv_of hO (by cbv <;> rfl) (by trivial) | (cbv <;> rfl)) ?_))
    refine AnyE.run tok hO (by rfl) (by cbv <;> rfl) (by trivial) ?_
    refine AnyE.many [2, 5] (by cbv <;> rfl) (by rfl) ⟨?_, ?_, trivial⟩
    · refine PickE.eff tok hO (by cbv <;> rfl) (by cbv <;> rfl) (by trivial) ?_ ?_
      · exact (by repeat (first | exact trivial | refine And.intro (by first | exact lv_of hO (by cbv <;> rfl) (by trivial) | (cbv <;> rfl)) ?_))
      refine AnyE.run tok hO (by rfl) (by cbv <;> rfl) (by trivial) ?_
      refine AnyE.callP h5 (by cbv <;> rfl) (by cbv <;> rfl) ?_
      refine AnyE.run tok hO (by rfl) (by cbv <;> rfl) (by trivial) ?_
      refine AnyE.effK tok hO (by cbv <;> rfl) (by cbv <;> rfl) (by trivial) ?_ ?_
      · exact (by repeat (first | exact trivial | refine And.intro (by first | exact lv_of hO (by cbv <;> rfl) (by trivial) | (cbv <;> rfl)) ?_))
      refine AnyE.run tok hO (by rfl) (by cbv <;> rfl) (by trivial) ?_
      refine AnyE.effK tok hO (by cbv <;> rfl) (by cbv <;> rfl) (by trivial) ?_ ?_
      · exact (by repeat (first | exact trivial | refine And.intro (by first | exact lv_of hO (by cbv <;> rfl) (by trivial) | (cbv <;> rfl)) ?_))
      refine AnyE.run tok hO (by rfl) (by cbv <;> rfl) (by trivial) ?_
      refine SW.ret ⟨_, _, rfl, rfl, ?_⟩
      exact Eqv.agg (.cons (Eqv.of rfl) (.cons (Eqv.of rfl) (.cons (by (first | refine Eqv.isl rfl fun i j hi hj => ?_ | refine Eqv.trans Eqv.islX (Eqv.isl rfl fun i j hi hj => ?_)) <;> (obtain rfl | rfl : i = 0 ∨ i = 1 := by omega) <;> (obtain rfl | rfl | rfl | rfl : j = 0 ∨ j = 1 ∨ j = 2 ∨ j = 3 := by omega) <;> first | exact Eqv.of rfl | omega) (.cons (by (first | refine Eqv.isl rfl fun i j hi hj => ?_ | refine Eqv.trans Eqv.islX (Eqv.isl rfl fun i j hi hj => ?_)) <;> (obtain rfl | rfl : i = 0 ∨ i = 1 := by omega) <;> (obtain rfl | rfl | rfl | rfl : j = 0 ∨ j = 1 ∨ j = 2 ∨ j = 3 := by omega) <;> first | exact Eqv.of rfl | omega) (.cons (by (first | refine Eqv.isl rfl fun i j hi hj => ?_ | refine Eqv.trans Eqv.islX (Eqv.isl rfl fun i j hi hj => ?_)) <;> (obtain rfl | rfl : i = 0 ∨ i = 1 := by omega) <;> (obtain rfl | rfl | rfl | rfl : j = 0 ∨ j = 1 ∨ j = 2 ∨ j = 3 := by omega) <;> first | exact Eqv.of rfl | omega) .nil)))))
    · refine PickE.callQ h5 (by cbv <;> rfl) (by cbv <;> rfl) ?_ ?_
      · exact (by repeat (first | exact trivial | refine And.intro (by first | exact lv_of hO (by cbv <;> rfl) (by trivial) | (cbv <;> rfl)) ?_))
      refine AnyE.run tok hO (by rfl) (by cbv <;> rfl) (by trivial) ?_
      refine AnyE.many [2, 7] (by cbv <;> rfl) (by rfl) ⟨?_, ?_, trivial⟩
      · refine PickE.eff tok hO (by cbv <;> rfl) (by cbv <;> rfl) (by trivial) ?_ ?_
        · exact (by repeat (first | exact trivial | refine And.intro (by first | exact lv_of hO (by cbv <;> rfl) (by trivial) | (cbv <;> rfl)) ?_))
        refine AnyE.run tok hO (by rfl) (by cbv <;> rfl) (by trivial) ?_
        refine AnyE.effK tok hO (by cbv <;> rfl) (by cbv <;> rfl) (by trivial) ?_ ?_
        · exact (by repeat (first | exact trivial | refine And.intro (by first | exact lv_of hO (by cbv <;> rfl) (by trivial) | (cbv <;> rfl)) ?_))
        refine AnyE.run tok hO (by rfl) (by cbv <;> rfl) (by trivial) ?_
        refine AnyE.effK tok hO (by cbv <;> rfl) (by cbv <;> rfl) (by trivial) ?_ ?_
        · exact (by repeat (first | exact trivial | refine And.intro (by first | exact lv_of hO (by cbv <;> rfl) (by trivial) | (cbv <;> rfl)) ?_))
        refine AnyE.run tok hO (by rfl) (by cbv <;> rfl) (by trivial) ?_
        refine SW.ret ⟨_, _, rfl, rfl, ?_⟩
        exact Eqv.agg (.cons (Eqv.of rfl) (.cons (Eqv.of rfl) (.cons (by (first | refine Eqv.isl rfl fun i j hi hj => ?_ | refine Eqv.trans Eqv.islX (Eqv.isl rfl fun i j hi hj => ?_)) <;> (obtain rfl | rfl : i = 0 ∨ i = 1 := by omega) <;> (obtain rfl | rfl | rfl | rfl : j = 0 ∨ j = 1 ∨ j = 2 ∨ j = 3 := by omega) <;> first | exact Eqv.of rfl | omega) (.cons (by (first | refine Eqv.isl rfl fun i j hi hj => ?_ | refine Eqv.trans Eqv.islX (Eqv.isl rfl fun i j hi hj => ?_)) <;> (obtain rfl | rfl : i = 0 ∨ i = 1 := by omega) <;> (obtain rfl | rfl | rfl | rfl : j = 0 ∨ j = 1 ∨ j = 2 ∨ j = 3 := by omega) <;> first | exact Eqv.of rfl | omega) (.cons (by (first | refine Eqv.isl rfl fun i j hi hj => ?_ | refine Eqv.trans Eqv.islX (Eqv.isl rfl fun i j hi hj => ?_)) <;> (obtain rfl | rfl : i = 0 ∨ i = 1 := by omega) <;> (obtain rfl | rfl | rfl | rfl : j = 0 ∨ j = 1 ∨ j = 2 ∨ j = 3 := by omega) <;> first | exact Eqv.of rfl | omega) .nil)))))
      · refine PickE.eff tok hO (by cbv <;> rfl) (by cbv <;> rfl) (by trivial) ?_ ?_
        · exact (by repeat (first | exact trivial | refine And.intro (by first | exact lv_of hO (by cbv <;> rfl) (by trivial) | (cbv <;> rfl)) ?_))
        refine AnyE.run tok hO (by rfl) (by cbv <;> rfl) (by trivial) ?_
        refine AnyE.effK tok hO (by cbv <;> rfl) (by cbv <;> rfl) (by trivial) ?_ ?_
        · exact (by repeat (first | exact trivial | refine And.intro (by first | exact lv_of hO (by cbv <;> rfl) (by trivial) | (cbv <;> rfl)) ?_))
        refine AnyE.run tok hO (by rfl) (by cbv <;> rfl) (by trivial) ?_
        refine AnyE.effK tok hO (by cbv <;> rfl) (by cbv <;> rfl) (by trivial) ?_ ?_
        · exact (by repeat (first | exact trivial | refine And.intro (by first | exact lv_of hO (by cbv <;> rfl) (by trivial) | (cbv <;> rfl)) ?_))
        refine AnyE.run tok hO (by rfl) (by cbv <;> rfl) (by trivial) ?_
        refine SW.ret ⟨_, _, rfl, rfl, ?_⟩
        exact Eqv.agg (.cons (Eqv.of rfl) (.cons (Eqv.of rfl) (.cons (by (first | refine Eqv.isl rfl fun i j hi hj => ?_ | refine Eqv.trans Eqv.islX (Eqv.isl rfl fun i j hi hj => ?_)) <;> (obtain rfl | rfl : i = 0 ∨ i = 1 := by omega) <;> (obtain rfl | rfl | rfl | rfl : j = 0 ∨ j = 1 ∨ j = 2 ∨ j = 3 := by omega) <;> first | exact Eqv.of rfl | omega) (.cons (by (first | refine Eqv.isl rfl fun i j hi hj => ?_ | refine Eqv.trans Eqv.islX (Eqv.isl rfl fun i j hi hj => ?_)) <;> (obtain rfl | rfl : i = 0 ∨ i = 1 := by omega) <;> (obtain rfl | rfl | rfl | rfl : j = 0 ∨ j = 1 ∨ j = 2 ∨ j = 3 := by omega) <;> first | exact Eqv.of rfl | omega) (.cons (by (first | refine Eqv.isl rfl fun i j hi hj => ?_ | refine Eqv.trans Eqv.islX (Eqv.isl rfl fun i j hi hj => ?_)) <;> (obtain rfl | rfl : i = 0 ∨ i = 1 := by omega) <;> (obtain rfl | rfl | rfl | rfl : j = 0 ∨ j = 1 ∨ j = 2 ∨ j = 3 := by omega) <;> first | exact Eqv.of rfl | omega) .nil)))))
set_option maxHeartbeats 16000000 in
theorem two_ok1 : Pure Try.prog 35 [iV 1] (dayV (twoD 1)) := by
  obtain ⟨O, hO⟩ : ∃ O : Ar, O = std := ⟨_, rfl⟩
  have ha := between_ok 2 2
  have hb := between_ok 5 9
  have h0 := between_ok 20 22
  have h1 := between_ok 25 25
  have h3 := between_ok 500 502
  have h5 := between_ok 610 610
  refine pure_of_body tok 4 Try.func35 en35 rfl ⟨Below.lit, trivial⟩ (dayV_below _) ?_
  refine SW.seqRun tok hO (by cbv <;> rfl) (by trivial) ?_
  refine SW.seqRun tok hO (by cbv <;> rfl) (by trivial) ?_
  refine OpsW.callP ha (by cbv <;> rfl) ?_
  refine OpsW.run tok hO (by cbv <;> rfl) (by trivial) ?_
  refine OpsW.callP hb (by cbv <;> rfl) ?_
  refine OpsW.run tok hO (by cbv <;> rfl) (by trivial) ?_
  refine SW.seqRunD tok mixed hO (by kernel_rfl) (by cbv <;> rfl) (by trivial) ?_
  refine AnyE.take (r := .sl 1 0 1 4 (Nat.beq 1 2)) (by kernel_rfl) tok 10 rfl (by cbv <;> rfl) (by cbv <;> rfl) ?_
  refine AnyE.run tok hO (by rfl) (by cbv <;> rfl) (by trivial) ?_
  refine AnyE.callP h0 (by cbv <;> rfl) (by cbv <;> rfl) ?_
  refine AnyE.run tok hO (by rfl) (by cbv <;> rfl) (by trivial) ?_
  refine AnyE.callP h1 (by cbv <;> rfl) (by cbv <;> rfl) ?_
  refine AnyE.run tok hO (by rfl) (by cbv <;> rfl) (by trivial) ?_
  refine AnyE.many [2, 3] (by cbv <;> rfl) (by rfl) ⟨?_, ?_, trivial⟩
  · refine PickE.eff tok hO (by cbv <;> rfl) (by cbv <;> rfl) (by trivial) ?_ ?_
    · exact (by repeat (first | exact trivial | refine And.intro (by first | exact lv_of hO (by cbv <;> rfl) (by trivial) | (cbv <;> rfl)) ?_))
    refine AnyE.run tok hO (by rfl) (by cbv <;> rfl) (by trivial) ?_
    refine AnyE.callP h3 (by cbv <;> rfl) (by cbv <;> rfl) ?_
    refine AnyE.run tok hO (by rfl) (by cbv <;> rfl) (by trivial) ?_
    refine AnyE.callP h5 (by cbv <;> rfl) (by cbv <;> rfl) ?_
    refine AnyE.run tok hO (by rfl) (by cbv <;> rfl) (by trivial) ?_
    refine AnyE.effK tok hO (by cbv <;> rfl) (by cbv <;> rfl) (by trivial) ?_ ?_
    · exact (by repeat (first | exact trivial | refine And.intro (by first | exact lv_of hO (by cbv <;> rfl) (by trivial) | (cbv <;> rfl)) ?_))
    refine AnyE.run tok hO (by rfl) (by cbv <;> rfl) (by trivial) ?_
    refine AnyE.effK tok hO (by cbv <;> rfl) (by cbv <;> rfl) (by trivial) ?_ ?_
    · exact (by repeat (first | exact trivial | refine And.intro (by first | exact lv_of hO (by cbv <;> rfl) (by trivial) | (cbv <;> rfl)) ?_))
    refine AnyE.run tok hO (by rfl) (by cbv <;> rfl) (by trivial) ?_
    refine SW.ret ⟨_, _, rfl, rfl, ?_⟩
    exact Eqv.agg (.cons (Eqv.of rfl) (.cons (Eqv.of rfl) (.cons (by (first | refine Eqv.isl rfl fun i j hi hj => ?_ | refine Eqv.trans Eqv.islX (Eqv.isl rfl fun i j hi hj => ?_)) <;> (obtain rfl | rfl : i = 0 ∨ i = 1 := by omega) <;> (obtain rfl | rfl | rfl | rfl : j = 0 ∨ j = 1 ∨ j = 2 ∨ j = 3 := by omega) <;> first | exact Eqv.of rfl | omega) (.cons (by (first | refine Eqv.isl rfl fun i j hi hj => ?_ | refine Eqv.trans Eqv.islX (Eqv.isl rfl fun i j hi hj => ?_)) <;> (obtain rfl | rfl : i = 0 ∨ i = 1 := by omega) <;> (obtain rfl | rfl | rfl | rfl : j = 0 ∨ j = 1 ∨ j = 2 ∨ j = 3 := by omega) <;> first | exact Eqv.of rfl | omega) (.cons (by (first | refine Eqv.isl rfl fun i j hi hj => ?_ | refine Eqv.trans Eqv.islX (Eqv.isl rfl fun i j hi hj => ?_)) <;> (obtain rfl | rfl : i = 0 ∨ i = 1 := by omega) <;> (obtain rfl | rfl | rfl | rfl : j = 0 ∨ j = 1 ∨ j = 2 ∨ j = 3 := by omega) <;> first | exact Eqv.of rfl | omega) .nil)))))
  · refine PickE.callQ h3 (by cbv <;> rfl) (by cbv <;> rfl) ?_ ?_
    · exact (by repeat (first | exact trivial | refine And.intro (by first | exact lv_of hO (by cbv <;> rfl) (by trivial) | (cbv <;> rfl)) ?_))
    refine AnyE.run tok hO (by rfl) (by cbv <;> rfl) (by trivial) ?_
    refine AnyE.many [2, 5] (by cbv <;> rfl) (by rfl) ⟨?_, ?_, trivial⟩
    · refine PickE.eff tok hO (by cbv <;> rfl) (by cbv <;> rfl) (by trivial) ?_ ?_
      · exact (by repeat (first | exact trivial | refine And.intro (by first | exact lv_of hO (by cbv <;> rfl) (by trivial) | (cbv <;> rfl)) ?_))
      refine AnyE.run tok hO (by rfl) (by cbv <;> rfl) (by trivial) ?_
      refine AnyE.callP h5 (by cbv <;> rfl) (by cbv <;> rfl) ?_
      refine AnyE.run tok hO (by rfl) (by cbv <;> rfl) (by trivial) ?_
      refine AnyE.effK tok hO (by cbv <;> rfl) (by cbv <;> rfl) (by trivial) ?_ ?_
      · exact (by repeat (first | exact trivial | refine And.intro (by first | exact lv_of hO (by cbv <;> rfl) (by trivial) | (cbv <;> rfl)) ?_))
      refine AnyE.run tok hO (by rfl) (by cbv <;> rfl) (by trivial) ?_
      refine AnyE.effK tok hO (by cbv <;> rfl) (by cbv <;> rfl) (by trivial) ?_ ?_
      · exact (by repeat (first | exact trivial | refine And.intro (by first | exact lv_of hO (by cbv <;> rfl) (by trivial) | (cbv <;> rfl)) ?_))
      refine AnyE.run tok hO (by rfl) (by cbv <;> rfl) (by trivial) ?_
      refine SW.ret ⟨_, _, rfl, rfl, ?_⟩
      exact Eqv.agg (.cons (Eqv.of rfl) (.cons (Eqv.of rfl) (.cons (by (first | refine Eqv.isl rfl fun i j hi hj => ?_ | refine Eqv.trans Eqv.islX (Eqv.isl rfl fun i j hi hj => ?_)) <;> (obtain rfl | rfl : i = 0 ∨ i = 1 := by omega) <;> (obtain rfl | rfl | rfl | rfl : j = 0 ∨ j = 1 ∨ j = 2 ∨ j = 3 := by omega) <;> first | exact Eqv.of rfl | omega) (.cons (by (first | refine Eqv.isl rfl fun i j hi hj => ?_ | refine Eqv.trans Eqv.islX (Eqv.isl rfl fun i j hi hj => ?_)) <;> (obtain rfl | rfl : i = 0 ∨ i = 1 := by omega) <;> (obtain rfl | rfl | rfl | rfl : j = 0 ∨ j = 1 ∨ j = 2 ∨ j = 3 := by omega) <;> first | exact Eqv.of rfl | omega) (.cons (by (first | refine Eqv.isl rfl fun i j hi hj => ?_ | refine Eqv.trans Eqv.islX (Eqv.isl rfl fun i j hi hj => ?_)) <;> (obtain rfl | rfl : i = 0 ∨ i = 1 := by omega) <;> (obtain rfl | rfl | rfl | rfl : j = 0 ∨ j = 1 ∨ j = 2 ∨ j = 3 := by omega) <;> first | exact Eqv.of rfl | omega) .nil)))))
    · refine PickE.callQ h5 (by cbv <;> rfl) (by cbv <;> rfl) ?_ ?_
      · exact (by repeat (first | exact trivial | refine And.intro (by first | exact lv_of hO (by cbv <;> rfl) (by trivial) | (cbv <;> rfl)) ?_))
      refine AnyE.run tok hO (by rfl) (by cbv <;> rfl) (by trivial) ?_
      refine AnyE.many [2, 7] (by cbv <;> rfl) (by rfl) ⟨?_, ?_, trivial⟩
      · refine PickE.eff tok hO (by cbv <;> rfl) (by cbv <;> rfl) (by trivial) ?_ ?_
        · exact (by repeat (first | exact trivial | refine And.intro (by first | exact lv_of hO (by cbv <;> rfl) (by trivial) | (cbv <;> rfl)) ?_))
        refine AnyE.run tok hO (by rfl) (by cbv <;> rfl) (by trivial) ?_
        refine AnyE.effK tok hO (by cbv <;> rfl) (by cbv <;> rfl) (by trivial) ?_ ?_
        · exact (by repeat (first | exact trivial | refine And.intro (by first | exact lv_of hO (by cbv <;> rfl) (by trivial) | (cbv <;> rfl)) ?_))
        refine AnyE.run tok hO (by rfl) (by cbv <;> rfl) (by trivial) ?_
        refine AnyE.effK tok hO (by cbv <;> rfl) (by cbv <;> rfl) (by trivial) ?_ ?_
        · exact (by repeat (first | exact trivial | refine And.intro (by first | exact lv_of hO (by cbv <;> rfl) (by trivial) | (cbv <;> rfl)) ?_))
        refine AnyE.run tok hO (by rfl) (by cbv <;> rfl) (by trivial) ?_
        refine SW.ret ⟨_, _, rfl, rfl, ?_⟩
        exact Eqv.agg (.cons (Eqv.of rfl) (.cons (Eqv.of rfl) (.cons (by (first | refine Eqv.isl rfl fun i j hi hj => ?_ | refine Eqv.trans Eqv.islX (Eqv.isl rfl fun i j hi hj => ?_)) <;> (obtain rfl | rfl : i = 0 ∨ i = 1 := by omega) <;> (obtain rfl | rfl | rfl | rfl : j = 0 ∨ j = 1 ∨ j = 2 ∨ j = 3 := by omega) <;> first | exact Eqv.of rfl | omega) (.cons (by (first | refine Eqv.isl rfl fun i j hi hj => ?_ | refine Eqv.trans Eqv.islX (Eqv.isl rfl fun i j hi hj => ?_)) <;> (obtain rfl | rfl : i = 0 ∨ i = 1 := by omega) <;> (obtain rfl | rfl | rfl | rfl : j = 0 ∨ j = 1 ∨ j = 2 ∨ j = 3 := by omega) <;> first | exact Eqv.of rfl | omega) (.cons (by (first | refine Eqv.isl rfl fun i j hi hj => ?_ | refine Eqv.trans Eqv.islX (Eqv.isl rfl fun i j hi hj => ?_)) <;> (obtain rfl | rfl : i = 0 ∨ i = 1 := by omega) <;> (obtain rfl | rfl | rfl | rfl : j = 0 ∨ j = 1 ∨ j = 2 ∨ j = 3 := by omega) <;> first | exact Eqv.of rfl | omega) .nil)))))
      · refine PickE.eff tok hO (by cbv <;> rfl) (by cbv <;> rfl) (by trivial) ?_ ?_
        · exact (by repeat (first | exact trivial | refine And.intro (by first | exact lv_of hO (by cbv <;> rfl) (by trivial) | (cbv <;> rfl)) ?_))
        refine AnyE.run tok hO (by rfl) (by cbv <;> rfl) (by trivial) ?_
        refine AnyE.effK tok hO (by cbv <;> rfl) (by cbv <;> rfl) (by trivial) ?_ ?_
        · exact (by repeat (first | exact trivial | refine And.intro (by first | exact lv_of hO (by cbv <;> rfl) (by trivial) | (cbv <;> rfl)) ?_))
        refine AnyE.run tok hO (by rfl) (by cbv <;> rfl) (by trivial) ?_
        refine AnyE.effK tok hO (by cbv <;> rfl) (by cbv <;> rfl) (by trivial) ?_ ?_
        · exact (by repeat (first | exact trivial | refine And.intro (by first | exact lv_of hO (by cbv <;> rfl) (by trivial) | (cbv <;> rfl)) ?_))
        refine AnyE.run tok hO (by rfl) (by cbv <;> rfl) (by trivial) ?_
        refine SW.ret ⟨_, _, rfl, rfl, ?_⟩
        exact Eqv.agg (.cons (Eqv.of rfl) (.cons (Eqv.of rfl) (.cons (by (first | refine Eqv.isl rfl fun i j hi hj => ?_ | refine Eqv.trans Eqv.islX (Eqv.isl rfl fun i j hi hj => ?_)) <;> (obtain rfl | rfl : i = 0 ∨ i = 1 := by omega) <;> (obtain rfl | rfl | rfl | rfl : j = 0 ∨ j = 1 ∨ j = 2 ∨ j = 3 := by omega) <;> first | exact Eqv.of rfl | omega) (.cons (by (first | refine Eqv.isl rfl fun i j hi hj => ?_ | refine Eqv.trans Eqv.islX (Eqv.isl rfl fun i j hi hj => ?_)) <;> (obtain rfl | rfl : i = 0 ∨ i = 1 := by omega) <;> (obtain rfl | rfl | rfl | rfl : j = 0 ∨ j = 1 ∨ j = 2 ∨ j = 3 := by omega) <;> first | exact Eqv.of rfl | omega) (.cons (by (first | refine Eqv.isl rfl fun i j hi hj => ?_ | refine Eqv.trans Eqv.islX (Eqv.isl rfl fun i j hi hj => ?_)) <;> (obtain rfl | rfl : i = 0 ∨ i = 1 := by omega) <;> (obtain rfl | rfl | rfl | rfl : j = 0 ∨ j = 1 ∨ j = 2 ∨ j = 3 := by omega) <;> first | exact Eqv.of rfl | omega) .nil)))))
set_option maxHeartbeats 16000000 in
theorem two_ok2 : Pure Try.prog 35 [iV 2] (dayV (twoD 2)) := by
  obtain ⟨O, hO⟩ : ∃ O : Ar, O = std := ⟨_, rfl⟩
  have ha := between_ok 2 2
  have hb := between_ok 5 9
  have h0 := between_ok 20 22
  have h1 := between_ok 25 25
  have h3 := between_ok 500 502
  have h5 := between_ok 610 610
  refine pure_of_body tok 4 Try.func35 en35 rfl ⟨Below.lit, trivial⟩ (dayV_below _) ?_
  refine SW.seqRun tok hO (by cbv <;> rfl) (by trivial) ?_
  refine SW.seqRun tok hO (by cbv <;> rfl) (by trivial) ?_
  refine OpsW.callP ha (by cbv <;> rfl) ?_
  refine OpsW.run tok hO (by cbv <;> rfl) (by trivial) ?_
  refine OpsW.callP hb (by cbv <;> rfl) ?_
  refine OpsW.run tok hO (by cbv <;> rfl) (by trivial) ?_
  refine SW.seqRunD tok mixed hO (by kernel_rfl) (by cbv <;> rfl) (by trivial) ?_
  refine AnyE.take (r := .sl 1 0 2 4 (Nat.beq 2 2)) (by kernel_rfl) tok 10 rfl (by cbv <;> rfl) (by cbv <;> rfl) ?_
  refine AnyE.run tok hO (by rfl) (by cbv <;> rfl) (by trivial) ?_
  refine AnyE.callP h0 (by cbv <;> rfl) (by cbv <;> rfl) ?_
  refine AnyE.run tok hO (by rfl) (by cbv <;> rfl) (by trivial) ?_
  refine AnyE.callP h1 (by cbv <;> rfl) (by cbv <;> rfl) ?_
  refine AnyE.run tok hO (by rfl) (by cbv <;> rfl) (by trivial) ?_
  refine AnyE.many [2, 3] (by cbv <;> rfl) (by rfl) ⟨?_, ?_, trivial⟩
  · refine PickE.eff tok hO (by cbv <;> rfl) (by cbv <;> rfl) (by trivial) ?_ ?_
    · exact (by repeat (first | exact trivial | refine And.intro (by first | exact lv_of hO (by cbv <;> rfl) (by trivial) | (cbv <;> rfl)) ?_))
    refine AnyE.run tok hO (by rfl) (by cbv <;> rfl) (by trivial) ?_
    refine AnyE.callP h3 (by cbv <;> rfl) (by cbv <;> rfl) ?_
    refine AnyE.run tok hO (by rfl) (by cbv <;> rfl) (by trivial) ?_
    refine AnyE.callP h5 (by cbv <;> rfl) (by cbv <;> rfl) ?_
    refine AnyE.run tok hO (by rfl) (by cbv <;> rfl) (by trivial) ?_
    refine AnyE.effK tok hO (by cbv <;> rfl) (by cbv <;> rfl) (by trivial) ?_ ?_
    · exact (by repeat (first | exact trivial | refine And.intro (by first | exact lv_of hO (by cbv <;> rfl) (by trivial) | (cbv <;> rfl)) ?_))
    refine AnyE.run tok hO (by rfl) (by cbv <;> rfl) (by trivial) ?_
    refine AnyE.effK tok hO (by cbv <;> rfl) (by cbv <;> rfl) (by trivial) ?_ ?_
    · exact (by repeat (first | exact trivial | refine And.intro (by first | exact lv_of hO (by cbv <;> rfl) (by trivial) | (cbv <;> rfl)) ?_))
    refine AnyE.run tok hO (by rfl) (by cbv <;> rfl) (by trivial) ?_
    refine SW.ret ⟨_, _, rfl, rfl, ?_⟩
    exact Eqv.agg (.cons (Eqv.of rfl) (.cons (Eqv.of rfl) (.cons (by (first | refine Eqv.isl rfl fun i j hi hj => ?_ | refine Eqv.trans Eqv.islX (Eqv.isl rfl fun i j hi hj => ?_)) <;> (obtain rfl | rfl : i = 0 ∨ i = 1 := by omega) <;> (obtain rfl | rfl | rfl | rfl : j = 0 ∨ j = 1 ∨ j = 2 ∨ j = 3 := by omega) <;> first | exact Eqv.of rfl | omega) (.cons (by (first | refine Eqv.isl rfl fun i j hi hj => ?_ | refine Eqv.trans Eqv.islX (Eqv.isl rfl fun i j hi hj => ?_)) <;> (obtain rfl | rfl : i = 0 ∨ i = 1 := by omega) <;> (obtain rfl | rfl | rfl | rfl : j = 0 ∨ j = 1 ∨ j = 2 ∨ j = 3 := by omega) <;> first | exact Eqv.of rfl | omega) (.cons (by (first | refine Eqv.isl rfl fun i j hi hj => ?_ | refine Eqv.trans Eqv.islX (Eqv.isl rfl fun i j hi hj => ?_)) <;> (obtain rfl | rfl : i = 0 ∨ i = 1 := by omega) <;> (obtain rfl | rfl | rfl | rfl : j = 0 ∨ j = 1 ∨ j = 2 ∨ j = 3 := by omega) <;> first | exact Eqv.of rfl | omega) .nil)))))
  · refine PickE.callQ h3 (by cbv <;> rfl) (by cbv <;> rfl) ?_ ?_
    · exact (by repeat (first | exact trivial | refine And.intro (by first | exact lv_of hO (by cbv <;> rfl) (by trivial) | (cbv <;> rfl)) ?_))
    refine AnyE.run tok hO (by rfl) (by cbv <;> rfl) (by trivial) ?_
    refine AnyE.many [2, 5] (by cbv <;> rfl) (by rfl) ⟨?_, ?_, trivial⟩
    · refine PickE.eff tok hO (by cbv <;> rfl) (by cbv <;> rfl) (by trivial) ?_ ?_
      · exact (by repeat (first | exact trivial | refine And.intro (by first | exact lv_of hO (by cbv <;> rfl) (by trivial) | (cbv <;> rfl)) ?_))
      refine AnyE.run tok hO (by rfl) (by cbv <;> rfl) (by trivial) ?_
      refine AnyE.callP h5 (by cbv <;> rfl) (by cbv <;> rfl) ?_
      refine AnyE.run tok hO (by rfl) (by cbv <;> rfl) (by trivial) ?_
      refine AnyE.effK tok hO (by cbv <;> rfl) (by cbv <;> rfl) (by trivial) ?_ ?_
      · exact (by repeat (first | exact trivial | refine And.intro (by first | exact lv_of hO (by cbv <;> rfl) (by trivial) | (cbv <;> rfl)) ?_))
      refine AnyE.run tok hO (by rfl) (by cbv <;> rfl) (by trivial) ?_
      refine AnyE.effK tok hO (by cbv <;> rfl) (by cbv <;> rfl) (by trivial) ?_ ?_
      · exact (by repeat (first | exact trivial | refine And.intro (by first | exact lv_of hO (by cbv <;> rfl) (by trivial) | (cbv <;> rfl)) ?_))
      refine AnyE.run tok hO (by rfl) (by cbv <;> rfl) (by trivial) ?_
      refine SW.ret ⟨_, _, rfl, rfl, ?_⟩
      exact Eqv.agg (.cons (Eqv.of rfl) (.cons (Eqv.of rfl) (.cons (by (first | refine Eqv.isl rfl fun i j hi hj => ?_ | refine Eqv.trans Eqv.islX (Eqv.isl rfl fun i j hi hj => ?_)) <;> (obtain rfl | rfl : i = 0 ∨ i = 1 := by omega) <;> (obtain rfl | rfl | rfl | rfl : j = 0 ∨ j = 1 ∨ j = 2 ∨ j = 3 := by omega) <;> first | exact Eqv.of rfl | omega) (.cons (by (first | refine Eqv.isl rfl fun i j hi hj => ?_ | refine Eqv.trans Eqv.islX (Eqv.isl rfl fun i j hi hj => ?_)) <;> (obtain rfl | rfl : i = 0 ∨ i = 1 := by omega) <;> (obtain rfl | rfl | rfl | rfl : j = 0 ∨ j = 1 ∨ j = 2 ∨ j = 3 := by omega) <;> first | exact Eqv.of rfl | omega) (.cons (by (first | refine Eqv.isl rfl fun i j hi hj => ?_ | refine Eqv.trans Eqv.islX (Eqv.isl rfl fun i j hi hj => ?_)) <;> (obtain rfl | rfl : i = 0 ∨ i = 1 := by omega) <;> (obtain rfl | rfl | rfl | rfl : j = 0 ∨ j = 1 ∨ j = 2 ∨ j = 3 := by omega) <;> first | exact Eqv.of rfl | omega) .nil)))))
    · refine PickE.callQ h5 (by cbv <;> rfl) (by cbv <;> rfl) ?_ ?_
      · exact (by repeat (first | exact trivial | refine And.intro (by first | exact lv_of hO (by cbv <;> rfl) (by trivial) | (cbv <;> rfl)) ?_))
      refine AnyE.run tok hO (by rfl) (by cbv <;> rfl) (by trivial) ?_
      refine AnyE.many [2, 7] (by cbv <;> rfl) (by rfl) ⟨?_, ?_, trivial⟩
      · refine PickE.eff tok hO (by cbv <;> rfl) (by cbv <;> rfl) (by trivial) ?_ ?_
        · exact (by repeat (first | exact trivial | refine And.intro (by first | exact lv_of hO (by cbv <;> rfl) (by trivial) | (cbv <;> rfl)) ?_))
        refine AnyE.run tok hO (by rfl) (by cbv <;> rfl) (by trivial) ?_
        refine AnyE.effK tok hO (by cbv <;> rfl) (by cbv <;> rfl) (by trivial) ?_ ?_
        · exact (by repeat (first | exact trivial | refine And.intro (by first | exact lv_of hO (by cbv <;> rfl) (by trivial) | (cbv <;> rfl)) ?_))
        refine AnyE.run tok hO (by rfl) (by cbv <;> rfl) (by trivial) ?_
        refine AnyE.effK tok hO (by cbv <;> rfl) (by cbv <;> rfl) (by trivial) ?_ ?_
        · exact (by repeat (first | exact trivial | refine And.intro (by first | exact lv_of hO (by cbv <;> rfl) (by trivial) | (cbv <;> rfl)) ?_))
        refine AnyE.run tok hO (by rfl) (by cbv <;> rfl) (by trivial) ?_
        refine SW.ret ⟨_, _, rfl, rfl, ?_⟩
        exact Eqv.agg (.cons (Eqv.of rfl) (.cons (Eqv.of rfl) (.cons (by (first | refine Eqv.isl rfl fun i j hi hj => ?_ | refine Eqv.trans Eqv.islX (Eqv.isl rfl fun i j hi hj => ?_)) <;> (obtain rfl | rfl : i = 0 ∨ i = 1 := by omega) <;> (obtain rfl | rfl | rfl | rfl : j = 0 ∨ j = 1 ∨ j = 2 ∨ j = 3 := by omega) <;> first | exact Eqv.of rfl | omega) (.cons (by (first | refine Eqv.isl rfl fun i j hi hj => ?_ | refine Eqv.trans Eqv.islX (Eqv.isl rfl fun i j hi hj => ?_)) <;> (obtain rfl | rfl : i = 0 ∨ i = 1 := by omega) <;> (obtain rfl | rfl | rfl | rfl : j = 0 ∨ j = 1 ∨ j = 2 ∨ j = 3 := by omega) <;> first | exact Eqv.of rfl | omega) (.cons (by (first | refine Eqv.isl rfl fun i j hi hj => ?_ | refine Eqv.trans Eqv.islX (Eqv.isl rfl fun i j hi hj => ?_)) <;> (obtain rfl | rfl : i = 0 ∨ i = 1 := by omega) <;> (obtain rfl | rfl | rfl | rfl : j = 0 ∨ j = 1 ∨ j = 2 ∨ j = 3 := by omega) <;> first | exact Eqv.of rfl | omega) .nil)))))
      · refine PickE.eff tok hO (by cbv <;> rfl) (by cbv <;> rfl) (by trivial) ?_ ?_
        · exact (by repeat (first | exact trivial | refine And.intro (by first | exact lv_of hO (by cbv <;> rfl) (by trivial) | (cbv <;> rfl)) ?_))
        refine AnyE.run tok hO (by rfl) (by cbv <;> rfl) (by trivial) ?_
        refine AnyE.effK tok hO (by cbv <;> rfl) (by cbv <;> rfl) (by trivial) ?_ ?_
        · exact (by repeat (first | exact trivial | refine And.intro (by first | exact lv_of hO (by cbv <;> rfl) (by trivial) | (cbv <;> rfl)) ?_))
        refine AnyE.run tok hO (by rfl) (by cbv <;> rfl) (by trivial) ?_
        refine AnyE.effK tok hO (by cbv <;> rfl) (by cbv <;> rfl) (by trivial) ?_ ?_
        · exact (by repeat (first | exact trivial | refine And.intro (by first | exact lv_of hO (by cbv <;> rfl) (by trivial) | (cbv <;> rfl)) ?_))
        refine AnyE.run tok hO (by rfl) (by cbv <;> rfl) (by trivial) ?_
        refine SW.ret ⟨_, _, rfl, rfl, ?_⟩
        exact Eqv.agg (.cons (Eqv.of rfl) (.cons (Eqv.of rfl) (.cons (by (first | refine Eqv.isl rfl fun i j hi hj => ?_ | refine Eqv.trans Eqv.islX (Eqv.isl rfl fun i j hi hj => ?_)) <;> (obtain rfl | rfl : i = 0 ∨ i = 1 := by omega) <;> (obtain rfl | rfl | rfl | rfl : j = 0 ∨ j = 1 ∨ j = 2 ∨ j = 3 := by omega) <;> first | exact Eqv.of rfl | omega) (.cons (by (first | refine Eqv.isl rfl fun i j hi hj => ?_ | refine Eqv.trans Eqv.islX (Eqv.isl rfl fun i j hi hj => ?_)) <;> (obtain rfl | rfl : i = 0 ∨ i = 1 := by omega) <;> (obtain rfl | rfl | rfl | rfl : j = 0 ∨ j = 1 ∨ j = 2 ∨ j = 3 := by omega) <;> first | exact Eqv.of rfl | omega) (.cons (by (first | refine Eqv.isl rfl fun i j hi hj => ?_ | refine Eqv.trans Eqv.islX (Eqv.isl rfl fun i j hi hj => ?_)) <;> (obtain rfl | rfl : i = 0 ∨ i = 1 := by omega) <;> (obtain rfl | rfl | rfl | rfl : j = 0 ∨ j = 1 ∨ j = 2 ∨ j = 3 := by omega) <;> first | exact Eqv.of rfl | omega) .nil)))))
end Go.Fz
