/- Own work of the verifier of watercress: FzCl14, FzCl15, FzCl16, FzCl17, FzCl18. -/
import Derived.Test.YtcjekdfncnmbfaaNa11
import Derived.Test.YtcjekdfncnmbfaaNa12
set_option linter.unusedVariables false
set_option linter.unusedSimpArgs false
set_option linter.unusedVariables false
namespace Go.Fz
open Go.Proofs
set_option maxRecDepth 100000
def arrC (f : Nat → Int) : List AV := [iV (f 0), iV (f 1), iV (f 2), iV (f 3), iV (f 4), iV (f 5)]
def beginV : AV := .fn (.func 110) [] [.ptr 49 0, .ptr 52 0, .ptr 51 0, .ptr 53 0]
def bgH (y : YardD) (E : Mk4) (cl : Nat) (G : List AV) (yid : Nat) (h : Hp) : Hp :=
  (53, .cells none false [beginV]) :: (52, .cells none false G) :: (51, .cells none false (workC y (.mp 50))) :: (50, .map (mkE E) cl) :: (49, .cells none false [.yld yid]) :: h
def bgM (y : YardD) (E : Mk4) (cl : Nat) (G : List AV) (yid : Nat) (H : Nat → Hp) : Nat → Hp := fun q => bgH y E cl G yid (H q)
theorem arrC_below (f : Nat → Int) : ∀ a ∈ arrC f, Below 0 a := AllB.ok ⟨Below.lit, Below.lit, Below.lit, Below.lit, Below.lit, Below.lit, trivial⟩
theorem bgM_low {y : YardD} {E : Mk4} {cl : Nat} {f : Nat → Int} {yid : Nat} {H : Nat → Hp} (hy : yid < 48) (hh : LowM 49 H) : LowM 54 (bgM y E cl (arrC f) yid H) := by
  have hp : ∀ {ρ : Nat → Nat} {n j : Nat}, (∀ i, i < 54 → i ≠ 48 → ρ i = i) → 54 ≤ n → j < 54 → j ≠ 48 → RenV ρ n (.ptr j 0) (.ptr j 0) := fun {ρ n j} hρ hn hj h48 => by
    have := RenV.ptr (ρ := ρ) (n := n) (j := j) (off := 0) (by omega)
    rwa [hρ j hj h48] at this
  refine LowM.cons (o := fun _ => .cells none false [beginV]) (by omega) (by omega) (MvO.cells fun ρ n hρ hn => .cons (RenV.fn .nil (.cons (hp hρ hn (by omega) (by omega)) (.cons (hp hρ hn (by omega) (by omega)) (.cons (hp hρ hn (by omega) (by omega)) (.cons (hp hρ hn (by omega) (by omega)) .nil))))) .nil) ?_
  refine LowM.cons (o := fun _ => .cells none false (arrC f)) (by omega) (by omega) (MvO.ints (arrC_below f)) ?_
  refine LowM.cons (o := fun _ => .cells none false (workC y (.mp 50))) (by omega) (by omega) (MvO.cells fun ρ n hρ hn => .cons (RenV.closed Below.lit) (.cons (RenV.closed Below.lit) (.cons (RenV.closed (bedsV_below y)) (.cons (RenV.closed (clmsV_below y)) (.cons ?_ .nil))))) ?_
  · have := RenV.mp (ρ := ρ) (n := n) (j := 50) (by omega)
    rwa [hρ 50 (by omega) (by omega)] at this
  refine LowM.cons (o := fun _ => .map (mkE E) cl) (by omega) (by omega) (MvO.map (mkE_below E)) ?_
  refine LowM.cons (o := fun _ => .cells none false [.yld yid]) (by omega) (by omega) (MvO.cells fun ρ n hρ hn => .cons ?_ .nil) (hh.up (by omega))
  have := RenV.yld (ρ := ρ) (n := n) (j := yid) (by omega)
  rwa [hρ yid (by omega) (by omega)] at this
section
variable {σ : Type} (y : YardD) (next : σ → (Nat → Int) → σ) (K : σ → (Nat → Hp) → Prop) (stop : σ → (Nat → Int) → (Nat → Hp) → Prop) (yid : Nat) (μ : σ → Nat)
def bgStep : Prop := ∀ s f H, μ s < 1000000 → K s H → YieldW Try.prog yid [.agg (arrC f)] ⟨H 48, 49⟩ (LowP 49 fun v H' => (v = .lit (.bool true) ∧ K (next s f) H') ∨ (v = .lit (.bool false) ∧ stop s f H'))
def bgK (L P : List Nat) (f : Nat → Int) (s : σ) (v : AV) (H' : Nat → Hp) : Prop :=
  (v = .sb true ∧ ∃ E' cl' f' h', H' = bgM y E' cl' (arrC f') yid h' ∧ LowM 49 h' ∧ y.Rep P f E' ∧ (∀ j, j ∉ L → f' j = f j) ∧ K (foldS y next L P f s) h') ∨
  (v = .sb false ∧ ∃ E' cl' f' h' g s', H' = bgM y E' cl' (arrC f') yid h' ∧ LowM 49 h' ∧ (E'.map (·.1.1)).Nodup ∧ (∀ j, j ∉ L → g j = f j) ∧ y.schP L P g ∧ stop s' g h')
def bgP (L P : List Nat) : Prop := ∀ (ex : Bool) (fl : Nat → Int) (f fa : Nat → Int) (E : Mk4) (cl : Nat) (s : σ) (h : Nat → Hp), (∀ i, i < L.length → fl i = (L.getD i 0 : Nat)) → y.Rep P f E → (∀ j, j ∉ L → fa j = f j) → μ s + 10 ^ L.length ≤ 1000000 → K s h →
  CallW Try.prog 110 [.isl L.length 1 ex (intC fl), .ptr 49 0, .ptr 52 0, .ptr 51 0, .ptr 53 0] ⟨bgH y E cl (arrC fa) yid (h 48), 54⟩ (LowP 54 (bgK y next K stop yid L P f s))
variable {y next K stop yid μ}
set_option maxHeartbeats 4000000 in
theorem bg_leaf (hy : yid < 48) (hlow : ∀ s h, K s h → LowM 49 h) (step : bgStep next K stop yid μ) (P : List Nat) : bgP y next K stop yid μ [] P := by
  intro ex fl f fa E cl s h hfl hrep hfa hmu hK
  obtain rfl : fa = f := funext fun j => hfa j (fun h => by cases h)
  obtain ⟨O, hO⟩ : ∃ O : Ar, O = std := ⟨_, rfl⟩
  have hst := YieldW.asideM (R := [(55, .cells none false [.sb false]), (54, .cells none false [.isl 0 1 ex (intC fl)]), (53, .cells none false [beginV]), (52, .cells none false (arrC fa)), (51, .cells none false (workC y (.mp 50))), (50, .map (mkE E) cl), (49, .cells none false [.yld yid])]) (n := 56) (m := 49) (q := 48) (by omega) (by omega) (fun id o ho => by
      have := Hp.mem_of_get ho
      simp only [List.mem_cons, Prod.mk.injEq, List.not_mem_nil, or_false] at this
      rcases this with ⟨rfl, rfl⟩ | ⟨rfl, rfl⟩ | ⟨rfl, rfl⟩ | ⟨rfl, rfl⟩ | ⟨rfl, rfl⟩ | ⟨rfl, rfl⟩ | ⟨rfl, rfl⟩
      all_goals exact ⟨by omega, by omega, by omega, rfl⟩) (by omega) (by omega) (.inl rfl) (by omega) (hlow s h hK) (fun a ha => by rw [List.mem_singleton.1 ha]; exact Below.agg (arrC_below fa)) (step s fa h hmu hK)
  have hME := mkE_below E
  obtain ⟨h48, hh48⟩ : ∃ x, h 48 = x := ⟨_, rfl⟩
  rw [hh48] at hst ⊢
  unfold bgH
  obtain ⟨ME, hMEe⟩ : ∃ m, mkE E = m := ⟨_, rfl⟩
  rw [hMEe] at hst ⊢
  refine callW_of_body tok Try.func110 rfl ?_
  refine SW.seqRun tok hO (by cbv <;> rfl) (by trivial) ?_
  refine SW.seq ?_
  refine SW.seqRun tok hO (by cbv <;> rfl) (by trivial) ?_
  refine SW.condS (by cbv <;> rfl) (fun h1 => ?_) (fun h1 => ?_)
  rotate_left
  · exfalso
    subst hO; simp [std] at h1
  refine SW.seq (SW.runN tok hO 2 (by cbv <;> rfl) (by trivial) ?_)
  refine OpsW.apply (c := .yld yid) (args := [.agg (arrC fa)]) (by cbv <;> rfl) hst fun v st' hk => ?_
  obtain ⟨h', q', n', hk, hl, hn', hq', hqn, rfl⟩ := hk
  have hout : ∀ {b : Bool} (id : Nat) (o : AObj), Hp.get (bgH y E cl (arrC fa) yid (h' q')) id = some o → Hp.get ((55, .cells none false [.sb b]) :: (54, .cells none false [.isl 0 1 ex (intC fl)]) :: bgH y E cl (arrC fa) yid (h' q')) id = some o := fun {b} id o ho => by
    have := ((bgM_low (H := h') hy hl).id q' id o (by omega) ho).1
    simp only [Hp.get]
    rw [if_neg (by omega), if_neg (by omega)]
    exact ho
  obtain ⟨hq, hhq⟩ : ∃ x, h' q' = x := ⟨_, rfl⟩
  rw [hhq] at hout ⊢
  unfold bgH at hout
  rw [hMEe] at hout
  have hgo : ∀ (st' : St) v, n' = st'.n → bgK y next K stop yid [] P fa s v (bgM y E cl (arrC fa) yid h') → Below 0 v → (∀ id o, Hp.get (bgM y E cl (arrC fa) yid h' q') id = some o → st'.h.get id = some o) → LowP 54 (bgK y next K stop yid [] P fa s) v st' := fun st' v e h1 h2 h3 => ⟨_, q', h1, h2, bgM_low hy hl, by omega, by omega, h3⟩
  have hbm : bgM y E cl (arrC fa) yid h' q' = (53, .cells none false [beginV]) :: (52, .cells none false (arrC fa)) :: (51, .cells none false (workC y (.mp 50))) :: (50, .map ME cl) :: (49, .cells none false [.yld yid]) :: hq := by
    unfold bgM bgH
    rw [hMEe, hhq]
  rw [hbm] at hgo
  rcases hk with ⟨rfl, hK'⟩ | ⟨rfl, hS⟩
  · refine OpsW.run tok hO (by cbv <;> rfl) (by trivial) ?_
    exact SW.ret ⟨_, _, rfl, rfl, hgo _ _ rfl (.inl ⟨rfl, E, cl, fa, h', rfl, hl, hrep, fun _ _ => rfl, hK'⟩) Below.sb hout⟩
  · refine OpsW.run tok hO (by cbv <;> rfl) (by trivial) ?_
    exact SW.ret ⟨_, _, rfl, rfl, hgo _ _ rfl (.inr ⟨rfl, E, cl, fa, h', fa, s, rfl, hl, hrep.nodup, fun _ _ => rfl, trivial, hS⟩) Below.sb hout⟩
end
end Go.Fz
set_option linter.unusedVariables false
namespace Go.Fz
open Go.Proofs
set_option maxRecDepth 100000
noncomputable def findRF3 : Code → Option (Code × Code)
  | .rangeFunc _ _ a b => some (a, b)
  | .seq a b => match findRF3 a with
    | some r => some r
    | none => findRF3 b
  | .cond _ a b => match findRF3 a with
    | some r => some r
    | none => findRF3 b
  | .scope a => findRF3 a
  | .block _ a => findRF3 a
  | _ => none
noncomputable def bgParts : Code × Code := match findRF3 (bodyF Try.f110) with
  | some p => p
  | none => (.skip, .skip)
def bgL : List (Nat × AV) := [(2, .ptr 52 0), (3, .ptr 51 0), (4, .ptr 53 0), (5, .ptr 54 0), (6, .ptr 55 0), (7, .ptr 56 0), (26, .fn (.func 97) [] [.ptr 57 0])]
noncomputable def bgR : ALoop := { state := .ready, pending := none, tmps := ⟨50, getT bgL⟩, params := #[27], assign := bgParts.1, body := bgParts.2, dfid := 58 }
noncomputable def bgRx : ALoop := { bgR with state := .done, pending := some .ret }
def lvR (r : ALoop) (lo hi bb : Int) (X : AV) (N : Nat) (ex : Bool) (fl : Nat → Int) : Hp :=
  [(59, .loop r), (58, .dfr), (57, .cells none false [iV lo, iV hi]), (56, .cells none false [iV bb]), (55, .cells none false [X]), (54, .cells none false [.isl N 1 ex (intC fl)])]
def lvM (r : ALoop) (lo hi bb : Int) (X : AV) (N : Nat) (ex : Bool) (fl : Nat → Int) (H : Nat → Hp) : Nat → Hp := fun q => lvR r lo hi bb X N ex fl ++ H q
theorem lvM_low {s : LoopState} {c : Option Code} {lo hi bb : Int} {X : AV} {N : Nat} {ex : Bool} {fl : Nat → Int} {H : Nat → Hp} (hX : Below 0 X) (hH : LowM 54 H) : LowM 60 (lvM { bgR with state := s, pending := c } lo hi bb X N ex fl H) := by
  have hp : ∀ {ρ : Nat → Nat} {n j : Nat}, (∀ i, i < 60 → i ≠ 48 → ρ i = i) → 60 ≤ n → j < 60 → j ≠ 48 → RenV ρ n (.ptr j 0) (.ptr j 0) := fun {ρ n j} hρ hn hj h48 => by
    have := RenV.ptr (ρ := ρ) (n := n) (j := j) (off := 0) (by omega)
    rwa [hρ j hj h48] at this
  refine LowM.cons (o := fun _ => .loop { bgR with state := s, pending := c }) (by omega) (by omega) (MvO.of rfl rfl fun ρ n hρ hn => .base (.loop rfl rfl rfl rfl rfl (by show 58 = ρ 58; rw [hρ 58 (by omega) (by omega)]) (by show 58 < n; omega) rfl
    (RenV.getT (l := bgL) ⟨hp hρ hn (by omega) (by omega), hp hρ hn (by omega) (by omega), hp hρ hn (by omega) (by omega), hp hρ hn (by omega) (by omega), hp hρ hn (by omega) (by omega), hp hρ hn (by omega) (by omega), RenV.fn .nil (.cons (hp hρ hn (by omega) (by omega)) .nil), trivial⟩))) ?_
  refine LowM.cons (o := fun _ => .dfr) (by omega) (by omega) (MvO.of rfl rfl fun ρ n hρ hn => .base .dfr) ?_
  refine LowM.cons (o := fun _ => .cells none false [iV lo, iV hi]) (by omega) (by omega) (MvO.ints (AllB.ok ⟨Below.lit, Below.lit, trivial⟩)) ?_
  refine LowM.cons (o := fun _ => .cells none false [iV bb]) (by omega) (by omega) (MvO.ints (AllB.ok ⟨Below.lit, trivial⟩)) ?_
  refine LowM.cons (o := fun _ => .cells none false [X]) (by omega) (by omega) (MvO.ints (AllB.ok ⟨hX, trivial⟩)) ?_
  refine LowM.cons (o := fun _ => .cells none false [.isl N 1 ex (intC fl)]) (by omega) (by omega) (MvO.ints (AllB.ok ⟨Below.isl fun _ _ _ _ => Below.lit, trivial⟩)) (hH.up (by omega))
def exS (ex b : Bool) : Bool := match ex with
  | false => false
  | true => b
section
variable {σ : Type} {y : YardD} {next : σ → (Nat → Int) → σ} {K : σ → (Nat → Hp) → Prop} {stop : σ → (Nat → Int) → (Nat → Hp) → Prop} {yid : Nat} {μ : σ → Nat}
def rnK (y : YardD) (next : σ → (Nat → Int) → σ) (K : σ → (Nat → Hp) → Prop) (stop : σ → (Nat → Int) → (Nat → Hp) → Prop) (yid : Nat) (L P : List Nat) (b : Nat) (v lo hi : Int) (N : Nat) (ex : Bool) (fl f : Nat → Int) (s : σ) (X u : AV) (H' : Nat → Hp) : Prop :=
  (u = .lit (.bool true) ∧ ∃ E' cl' fa' h', H' = lvM bgR lo hi b X N ex fl (bgM y E' cl' (arrC fa') yid h') ∧ LowM 49 h' ∧ y.Rep P f E' ∧ (∀ j, j ∉ b :: L → fa' j = f j) ∧ K (if y.okAt P f b v = true then foldS y next L (P ++ [b]) (setI f b v) s else s) h') ∨
  (u = .lit (.bool false) ∧ ∃ E' cl' fa' h' g s', H' = lvM bgRx lo hi b (.sb false) N ex fl (bgM y E' cl' (arrC fa') yid h') ∧ LowM 49 h' ∧ (E'.map (·.1.1)).Nodup ∧ (∀ j, j ∉ b :: L → g j = f j) ∧ y.okAt P f b v = true ∧ g b = v ∧ y.schP L (P ++ [b]) g ∧ stop s' g h')
set_option maxHeartbeats 8000000 in
theorem bg_round (hy : yid < 48) (hlow : ∀ s h, K s h → LowM 49 h) (hnb : y.nb ≤ 6) (b : Nat) (hb : b < y.nb) (hl : 1 ≤ y.lng b ∧ y.lng b ≤ 3) (L P : List Nat) (hPL : (P ++ b :: L).Pairwise (· < ·)) (hP : ∀ p ∈ P, p < y.nb) (ih : bgP y next K stop yid μ L (P ++ [b]))
    (ex : Bool) (fl : Nat → Int) (hfl : ∀ i, i < (b :: L).length → fl i = ((b :: L).getD i 0 : Nat)) (f fa : Nat → Int) (E : Mk4) (cl : Nat) (s : σ) (h : Nat → Hp) (hrep : y.Rep P f E) (hfa : ∀ j, j ∉ b :: L → fa j = f j) (hmu : μ s + 10 ^ L.length ≤ 1000000) (hK : K s h) (N : Nat) (hN : L.length + 1 = N) (lo hi v : Int) (h1 : 0 ≤ v) (h2 : v ≤ 100) (X : AV) (hX : Below 0 X) :
    YieldW Try.prog 59 [iV v] ⟨lvR bgR lo hi b X N ex fl ++ bgH y E cl (arrC fa) yid (h 48), 60⟩ (LowP 60 (rnK y next K stop yid L P b v lo hi N ex fl f s X)) := by
  obtain ⟨O, hO⟩ : ∃ O : Ar, O = std := ⟨_, rfl⟩
  have hnat : ∀ i : Nat, O.nat (Int.ofNat i) = i := fun i => by subst hO; rfl
  have hPp : P.Pairwise (· < ·) := (List.pairwise_append.1 hPL).1
  have hbP : b ∉ P := fun hm => Nat.lt_irrefl b ((List.pairwise_append.1 hPL).2.2 b hm b List.mem_cons_self)
  have hal := fun (st : St) (hm : st.h.get 50 = some (.map (mkE E) cl)) => allows_at y (by omega) b hb hl v h1 h2 E hrep.nodup cl hm
  have hmk := fun (st : St) (hm : st.h.get 50 = some (.map (mkE E) cl)) => mark_at y (by omega) b hb hl v h1 h2 true E hrep.nodup cl hm
  rw [allows_rep hrep (by omega) hPp hP b (by omega) hl v h1 h2] at hal
  obtain ⟨A, hA⟩ : ∃ A, y.okAt P f b v = A := ⟨_, rfl⟩
  rw [hA] at hal
  have hrep2 := hrep.mark (by omega) hbP hl h1 h2 cl
  obtain ⟨E2, hE2⟩ : ∃ e, mkP b v true E cl (y.lng b).toNat = e := ⟨_, rfl⟩
  rw [hE2] at hmk hrep2
  obtain ⟨bb, hbb⟩ : ∃ bb : Int, (b : Int) = bb := ⟨_, rfl⟩
  obtain ⟨ME, hME⟩ : ∃ m, mkE E = m := ⟨_, rfl⟩
  have hlvl := fun {E' : Mk4} {cl' : Nat} {fa' : Nat → Int} {h' : Nat → Hp} (hl : LowM 49 h') => lvM_low (s := bgR.state) (c := bgR.pending) (lo := lo) (hi := hi) (bb := b) (N := N) (ex := ex) (fl := fl) hX (bgM_low (y := y) (E := E') (cl := cl') (f := fa') hy hl)
  have hlvl2 := fun {E' : Mk4} {cl' : Nat} {fa' : Nat → Int} {h' : Nat → Hp} (hl : LowM 49 h') => lvM_low (s := bgRx.state) (c := bgRx.pending) (lo := lo) (hi := hi) (bb := b) (X := .sb false) (N := N) (ex := ex) (fl := fl) Below.sb (bgM_low (y := y) (E := E') (cl := cl') (f := fa') hy hl)
  have hrn1 : ∀ E' cl' fa' h', LowM 49 h' → y.Rep P f E' → (∀ j, j ∉ b :: L → fa' j = f j) → K (if A = true then foldS y next L (P ++ [b]) (setI f b v) s else s) h' → rnK y next K stop yid L P b v lo hi N ex fl f s X (.lit (.bool true)) (lvM bgR lo hi b X N ex fl (bgM y E' cl' (arrC fa') yid h')) := fun E' cl' fa' h' k1 k2 k3 k4 => .inl ⟨rfl, E', cl', fa', h', rfl, k1, k2, k3, by rw [hA]; exact k4⟩
  have hrn2 : ∀ E' cl' fa' h' g s', LowM 49 h' → (E'.map (·.1.1)).Nodup → (∀ j, j ∉ b :: L → g j = f j) → A = true → g b = v → y.schP L (P ++ [b]) g → stop s' g h' → rnK y next K stop yid L P b v lo hi N ex fl f s X (.lit (.bool false)) (lvM bgRx lo hi b (.sb false) N ex fl (bgM y E' cl' (arrC fa') yid h')) := fun E' cl' fa' h' g s' k1 k2 k3 k4 k5 k6 k7 => .inr ⟨rfl, E', cl', fa', h', g, s', rfl, k1, k2, k3, by rw [hA]; exact k4, k5, k6, k7⟩
  obtain ⟨RK, hRK⟩ : ∃ k, rnK y next K stop yid L P b v lo hi N ex fl f s X = k := ⟨_, rfl⟩
  rw [hRK] at hrn1 hrn2 ⊢
  rw [hbb] at hrn1 hrn2 hlvl hlvl2
  have hsame : A = false → LowP 60 RK (.lit (.bool true)) (⟨lvR bgR lo hi bb X N ex fl ++ bgH y E cl (arrC fa) yid (h 48), 60⟩ : St) := fun hAf => ⟨_, 48, hrn1 E cl fa h (hlow s h hK) hrep hfa (by rw [hAf, if_neg (by simp)]; exact hK), Below.lit, hlvl (hlow s h hK), Nat.le_refl _, .inl rfl, fun _ _ h => h⟩
  obtain ⟨h48, hh48⟩ : ∃ x, h 48 = x := ⟨_, rfl⟩
  rw [hh48] at hsame ⊢
  unfold lvR bgH at hsame ⊢
  rw [hME] at hal hmk hsame
  refine YieldW.of_round (r := bgR) rfl rfl ?_
  rw [hME, hbb]
  rw [hbb] at hal hmk
  refine SW.run tok hO (by cbv <;> rfl) (by trivial) ?_
  refine ⟨bgR, rfl, rfl, SW.block ?_⟩
  obtain ⟨RB, hRB⟩ : ∃ r, r = ({ bgR with state := .busy } : ALoop) := ⟨_, rfl⟩
  rw [← hRB]
  refine SW.seq ?_
  refine SW.seq (SW.runN tok hO 3 (by cbv <;> rfl) (by trivial) ?_)
  refine OpsW.callS en111 (hal _ rfl) (by cbv <;> rfl) fun r st' hk => ?_
  obtain ⟨rfl, rfl⟩ := hk
  refine OpsW.run tok hO (by cbv <;> rfl) (by trivial) ?_
  refine SW.condS (by cbv <;> rfl) (fun h3 => ?_) (fun h3 => ?_)
  · have hAf : A = false := by subst hO; simpa [std] using h3
    refine SW.exit ?_
    subst hRB
    exact ⟨_, rfl, hsame hAf⟩
  have hAt : A = true := by subst hO; simpa [std] using h3
  refine SW.skip ?_
  subst hAt
  clear hsame h3
  show SW _ _ _ _ _ _
  refine SW.seqRun tok hO (by cbv <;> rfl) ?_ ?_
  · have hb0 : O.nat bb = b := by rw [← hbb]; exact hnat b
    have hb1 : O.nat bb < 6 := by omega
    have hb2 : 0 ≤ bb ∧ bb < ((6 : Nat) : Int) := by omega
    exact ⟨hb1, hb2⟩
  have hb0 : O.nat bb = b := by rw [← hbb]; exact hnat b
  have hfb : (fun j => O.ups j (O.nat bb) v (fa j)) = setI fa b v := by
    funext j
    rw [hb0]
    subst hO
    show (if b = j then v else fa j) = (if j = b then v else fa j)
    by_cases e : b = j
    · rw [if_pos e, if_pos e.symm]
    · rw [if_neg e, if_neg fun h => e h.symm]
  refine (show SW Try.prog (some 59) _ _ _ ⟨lvR RB lo hi bb X N ex fl ++ ((53, .cells none false [beginV]) :: (52, .cells none false (arrC (fun j => O.ups j (O.nat bb) v (fa j)))) :: (51, .cells none false (workC y (.mp 50))) :: (50, .map ME cl) :: (49, .cells none false [.yld yid]) :: h48), 60⟩ from ?_)
  rw [hfb]
  have hagr : ∀ j, j ∉ L → setI fa b v j = setI f b v j := fun j hj => by
    unfold setI
    split
    · rfl
    · rename_i e
      exact hfa j (fun hm => (List.mem_cons.1 hm).elim e hj)
  have hbL : b ∉ L := fun hm => by
    have := (List.pairwise_cons.1 (List.pairwise_append.1 hPL).2.1).1 b hm
    exact Nat.lt_irrefl b this
  obtain ⟨fd, hfd⟩ : ∃ g : Nat → Int, g = fun i => fl (1 + i) := ⟨_, rfl⟩
  obtain ⟨exq, hexq⟩ : ∃ q : Bool, q = exS ex (O.eqN N N) := ⟨_, rfl⟩
  have hcall := CallW.asideM (R := lvR RB lo hi bb X N ex fl) (n := 60) (m := 54) (q := 48) (g := 110) (args := [.isl L.length 1 exq (intC fd), .ptr 49 0, .ptr 52 0, .ptr 51 0, .ptr 53 0]) (k := bgK y next K stop yid L (P ++ [b]) (setI f b v) s) (fun id o ho => by
      have := Hp.mem_of_get ho
      simp only [lvR, List.mem_cons, Prod.mk.injEq, List.not_mem_nil, or_false] at this
      rcases this with ⟨rfl, rfl⟩ | ⟨rfl, rfl⟩ | ⟨rfl, rfl⟩ | ⟨rfl, rfl⟩ | ⟨rfl, rfl⟩ | ⟨rfl, rfl⟩
      all_goals exact ⟨by omega, by omega, by omega, rfl⟩) (by omega) (by omega) (.inl rfl) (by omega) (bgM_low (y := y) (E := E2.1) (cl := E2.2) (f := setI fa b v) hy (hlow s h hK))
    (.cons (RenV.closed (Below.isl fun i k _ _ => Below.lit)) (.cons (RenV.ptr (by omega)) (.cons (RenV.ptr (by omega)) (.cons (RenV.ptr (by omega)) (.cons (RenV.ptr (by omega)) .nil)))))
    (ih exq fd (setI f b v) (setI fa b v) E2.1 E2.2 s h (fun i hi => by
      rw [hfd]
      show fl (1 + i) = _
      rw [hfl (1 + i) (by show 1 + i < L.length + 1; omega), Nat.add_comm 1 i]
      rfl) hrep2 hagr hmu hK)
  have hslice : (AV.isl L.length 1 exq (intC fd)) = .isl (O.sub N (O.nat 1)) 1 (exS ex (O.eqN N N)) (fun i => intC fl (O.add (O.nat 1) i)) := by
    rw [hexq]
    subst hO
    show _ = AV.isl (N - 1) 1 _ (fun i => intC fl (1 + i))
    rw [← hN, Nat.add_sub_cancel, hfd]
    rfl
  rw [hslice] at hcall
  unfold bgM at hcall
  rw [hh48] at hcall
  unfold bgH at hcall
  obtain ⟨ME2, hME2⟩ : ∃ m, mkE E2.1 = m := ⟨_, rfl⟩
  obtain ⟨c2, hc2⟩ : ∃ m, E2.2 = m := ⟨_, rfl⟩
  rw [hME2, hc2] at hmk hcall
  obtain ⟨fs, hfs⟩ : ∃ g, setI fa b v = g := ⟨_, rfl⟩
  rw [hfs] at hcall ⊢
  unfold lvR at hcall ⊢
  refine SW.seq (SW.runN tok hO 3 (by cbv <;> rfl) (by trivial) ?_)
  refine OpsW.callS en112 (hmk _ rfl) (by cbv <;> rfl) fun r st' hk => ?_
  obtain ⟨rfl, rfl⟩ := hk
  refine OpsW.run tok hO (by cbv <;> rfl) (by trivial) ?_
  refine SW.seq ?_
  refine SW.runD tok mixed hO (by rfl) (by cbv <;> rfl) ?_ ?_
  · have hn1 : O.nat 1 = 1 := by subst hO; rfl
    have hc1 : O.nat 1 ≤ N := by omega
    exact ⟨hc1, Nat.le_refl _, (by decide : (0 : Int) ≤ 1)⟩
  refine AnyE.apply (c := beginV) (args := [.isl (O.sub N (O.nat 1)) 1 (exS ex (O.eqN N N)) (fun i => intC fl (O.add (O.nat 1) i))]) (by cbv <;> rfl) (by cbv <;> rfl) ⟨en110, hcall⟩ fun r st' hk => ?_
  obtain ⟨H', q', n', hk, hlowH, hn', hq', hqn, rfl⟩ := hk
  rcases hk with ⟨rfl, E3, c3, f3, h3, rfl, hl3, hrep3, hagr3, hK3⟩ | ⟨rfl, E3, c3, f3, h3, g, s', rfl, hl3, hnd3, hgf, hsch, hS⟩
  · have hmk2 := fun (st : St) (hm : st.h.get 50 = some (.map (mkE E3) c3)) => mark_at y (by omega) b hb hl v h1 h2 false E3 hrep3.nodup c3 hm
    have hrep4 := hrep3.unmark (by omega) hbP hl h1 h2 c3
    obtain ⟨E4, hE4⟩ : ∃ e, mkP b v false E3 c3 (y.lng b).toNat = e := ⟨_, rfl⟩
    rw [hE4] at hmk2 hrep4
    rw [hbb] at hmk2
    unfold bgM
    have hfin : LowP 60 RK (.lit (.bool true)) (⟨lvR bgR lo hi bb X N ex fl ++ bgH y E4.1 E4.2 (arrC f3) yid (h3 q'), n'⟩ : St) :=
      ⟨_, q', hrn1 E4.1 E4.2 f3 h3 hl3 hrep4 (fun j hj => by
        rw [hagr3 j (fun hm => hj (List.mem_cons_of_mem _ hm))]
        exact setI_ne (fun e => hj (by rw [e]; exact List.mem_cons_self))) (by rw [if_pos rfl]; exact hK3), Below.lit, hlvl hl3, hn', hq'.imp (fun h => h) (fun h => ⟨h, hqn⟩), fun _ _ h => h⟩
    obtain ⟨hq, hhq⟩ : ∃ x, h3 q' = x := ⟨_, rfl⟩
    rw [hhq] at hfin ⊢
    obtain ⟨ME3, hME3⟩ : ∃ m, mkE E3 = m := ⟨_, rfl⟩
    obtain ⟨ME4, hME4⟩ : ∃ m, mkE E4.1 = m := ⟨_, rfl⟩
    obtain ⟨c4, hc4⟩ : ∃ m, E4.2 = m := ⟨_, rfl⟩
    unfold lvR bgH at hfin
    rw [hME3, hME4, hc4] at hmk2
    rw [hME4, hc4] at hfin
    unfold bgH
    rw [hME3]
    refine AnyE.run tok hO (by rfl) (by cbv <;> rfl) (by trivial) ?_
    refine SW.seq (SW.runN tok hO 3 (by cbv <;> rfl) (by trivial) ?_)
    refine OpsW.callS en112 (hmk2 _ rfl) (by cbv <;> rfl) fun r st' hk => ?_
    obtain ⟨rfl, rfl⟩ := hk
    refine OpsW.run tok hO (by cbv <;> rfl) (by trivial) ?_
    refine SW.seqRun tok hO (by cbv <;> rfl) (by trivial) ?_
    refine SW.condS (by cbv <;> rfl) (fun h3 => ?_) (fun h3 => SW.skip ?_)
    · exfalso
      subst hO; simp [std] at h3
    subst hRB
    exact ⟨_, rfl, hfin⟩
  · have hmk2 := fun (st : St) (hm : st.h.get 50 = some (.map (mkE E3) c3)) => mark_at y (by omega) b hb hl v h1 h2 false E3 hnd3 c3 hm
    have hnd4 := mkP_nodup (b := b) (v := v) (B := false) (cl := c3) hnd3 (y.lng b).toNat
    obtain ⟨E4, hE4⟩ : ∃ e, mkP b v false E3 c3 (y.lng b).toNat = e := ⟨_, rfl⟩
    rw [hE4] at hmk2 hnd4
    rw [hbb] at hmk2
    unfold bgM
    have hfin : LowP 60 RK (.lit (.bool false)) (⟨lvR bgRx lo hi bb (.sb false) N ex fl ++ bgH y E4.1 E4.2 (arrC f3) yid (h3 q'), n'⟩ : St) :=
      ⟨_, q', hrn2 E4.1 E4.2 f3 h3 g s' hl3 hnd4 (fun j hj => by
        rw [hgf j (fun hm => hj (List.mem_cons_of_mem _ hm))]
        exact setI_ne (fun e => hj (by rw [e]; exact List.mem_cons_self))) rfl (by rw [hgf b hbL]; exact setI_self _ _ _) hsch hS, Below.lit, hlvl2 hl3, hn', hq'.imp (fun h => h) (fun h => ⟨h, hqn⟩), fun _ _ h => h⟩
    obtain ⟨hq, hhq⟩ : ∃ x, h3 q' = x := ⟨_, rfl⟩
    rw [hhq] at hfin ⊢
    obtain ⟨ME3, hME3⟩ : ∃ m, mkE E3 = m := ⟨_, rfl⟩
    obtain ⟨ME4, hME4⟩ : ∃ m, mkE E4.1 = m := ⟨_, rfl⟩
    obtain ⟨c4, hc4⟩ : ∃ m, E4.2 = m := ⟨_, rfl⟩
    unfold lvR bgH at hfin
    rw [hME3, hME4, hc4] at hmk2
    rw [hME4, hc4] at hfin
    unfold bgH
    rw [hME3]
    refine AnyE.run tok hO (by rfl) (by cbv <;> rfl) (by trivial) ?_
    refine SW.seq (SW.runN tok hO 3 (by cbv <;> rfl) (by trivial) ?_)
    refine OpsW.callS en112 (hmk2 _ rfl) (by cbv <;> rfl) fun r st' hk => ?_
    obtain ⟨rfl, rfl⟩ := hk
    refine OpsW.run tok hO (by cbv <;> rfl) (by trivial) ?_
    refine SW.seqRun tok hO (by cbv <;> rfl) (by trivial) ?_
    refine SW.condS (by cbv <;> rfl) (fun h3 => ?_) (fun h3 => ?_)
    rotate_left
    · exfalso
      subst hO; simp [std] at h3
    refine SW.seqRun tok hO (by cbv <;> rfl) (by trivial) ?_
    subst hRB
    exact SW.ret ⟨_, rfl, hfin⟩
end
end Go.Fz
set_option linter.unusedVariables false
namespace Go.Fz
open Go.Proofs
set_option maxRecDepth 100000
theorem SW.fmT {P : Program} {rd : Option Nat} {c : Code} {Q : Exit → Fm → St → Prop} {f1 : Fm} {len : Nat} {h : Hp} {n : Nat} (l : List (Nat × AV)) (e1 : len = f1.ts.len) (e2 : f1.dm = []) (e4 : AllW (n = n) n f1.ts.get l) (hlt : ∀ id o, h.get id = some o → id < n)
    (hs : SW P rd c Q ⟨⟨len, getT l⟩, []⟩ ⟨h, n⟩) : SW P rd c Q f1 ⟨h, n⟩ :=
  SW.pre (f2 := ⟨⟨len, getT l⟩, []⟩) (st2 := ⟨h, n⟩) ⟨e1, e2.symm, (fun _ h => nomatch h), getT_weak l e4.ok, Nat.le_refl _, Nat.le_refl _, fun id o ho => ⟨ho, hlt id o ho, .inl rfl⟩⟩ hs
section
variable {σ : Type} {y : YardD} {next : σ → (Nat → Int) → σ} {K : σ → (Nat → Hp) → Prop} {stop : σ → (Nat → Int) → (Nat → Hp) → Prop} {yid : Nat} {μ : σ → Nat}
structure YardD.Fit (y : YardD) : Prop where
  nb : y.nb ≤ 6
  lng : ∀ b, b < y.nb → 1 ≤ y.lng b ∧ y.lng b ≤ 3
  beg : ∀ b, b < y.nb → 0 ≤ y.blo b ∧ y.blo b ≤ y.bhi b ∧ y.bhi b ≤ 9
theorem lvR_get2 {r : ALoop} {lo hi bb : Int} {X : AV} {N : Nat} {ex : Bool} {fl : Nat → Int} {H : Hp} {id : Nat} (h : id < 54 ∨ 60 ≤ id) : Hp.get (lvR r lo hi bb X N ex fl ++ H) id = Hp.get H id := by
  show Hp.get ((59, _) :: (58, _) :: (57, _) :: (56, _) :: (55, _) :: (54, _) :: H) id = _
  simp only [Hp.get]
  rw [if_neg (by omega), if_neg (by omega), if_neg (by omega), if_neg (by omega), if_neg (by omega), if_neg (by omega)]
theorem mu_foldV {g : Int → σ → σ} {c : Nat} (hg : ∀ v a, μ (g v a) ≤ μ a + c) (lo : Int) : ∀ (k : Nat) (s : σ), μ (foldV g lo k s) ≤ μ s + k * c
  | 0, s => by simp [foldV]
  | k + 1, s => by
    have h1 := mu_foldV hg lo k s
    have h2 := hg (lo + k) (foldV g lo k s)
    have h3 : (k + 1) * c = k * c + c := Nat.succ_mul k c
    show μ (g (lo + k) (foldV g lo k s)) ≤ _
    omega
theorem mu_foldS (hμ : ∀ s f, μ (next s f) ≤ μ s + 1) (hfit : y.Fit) : ∀ (L P : List Nat) (f : Nat → Int) (s : σ), (∀ p ∈ L, p < y.nb) → μ (foldS y next L P f s) ≤ μ s + 10 ^ L.length
  | [], P, f, s, _ => by simpa [foldS] using hμ s f
  | b :: L, P, f, s, hL => by
    have hb := hfit.beg b (hL b List.mem_cons_self)
    have h1 := mu_foldV (μ := μ) (g := fun v a => if y.okAt P f b v = true then foldS y next L (P ++ [b]) (setI f b v) a else a) (c := 10 ^ L.length) (fun v a => by
      split
      · exact mu_foldS hμ hfit L (P ++ [b]) (setI f b v) a (fun p hp => hL p (List.mem_cons_of_mem _ hp))
      · exact Nat.le_add_right _ _) (y.blo b) (y.bhi b - y.blo b + 1).toNat s
    have h2 : (y.bhi b - y.blo b + 1).toNat * 10 ^ L.length ≤ 10 * 10 ^ L.length := Nat.mul_le_mul_right _ (by omega)
    have h3 : 10 ^ (b :: L).length = 10 * 10 ^ L.length := by rw [List.length_cons, Nat.pow_succ, Nat.mul_comm]
    rw [h3]
    exact Nat.le_trans h1 (Nat.add_le_add_left h2 _)
set_option maxHeartbeats 8000000 in
theorem bg_step (hμ : ∀ s f, μ (next s f) ≤ μ s + 1) (hy : yid < 48) (hlow : ∀ s h, K s h → LowM 49 h) (hfit : y.Fit) (b : Nat) (hb : b < y.nb) (L P : List Nat) (hLn : ∀ p ∈ L, p < y.nb) (hPL : (P ++ b :: L).Pairwise (· < ·)) (hP : ∀ p ∈ P, p < y.nb) (ih : bgP y next K stop yid μ L (P ++ [b])) : bgP y next K stop yid μ (b :: L) P := by
  intro ex fl f fa E cl s h hfl hrep hfa hmu hK
  obtain ⟨O, hO⟩ : ∃ O : Ar, O = std := ⟨_, rfl⟩
  have hnat : ∀ i : Nat, O.nat (Int.ofNat i) = i := fun i => by subst hO; rfl
  have hnb := hfit.nb
  have hl := hfit.lng b hb
  have hbg := hfit.beg b hb
  obtain ⟨N, hN⟩ : ∃ N, L.length + 1 = N := ⟨_, rfl⟩
  have hround := fun v h1 h2 fa E cl s h hrep hfa hmu hK => bg_round (K := K) (stop := stop) hy hlow hnb b hb hl L P hPL hP ih ex fl hfl f fa E cl s h hrep hfa hmu hK N hN (y.blo b) (y.bhi b) v h1 h2 (.sb false) Below.sb
  have hfold : foldS y next (b :: L) P f s = foldV (fun v a => if y.okAt P f b v = true then foldS y next L (P ++ [b]) (setI f b v) a else a) (y.blo b) (y.bhi b - y.blo b + 1).toNat s := rfl
  have hsP : ∀ g : Nat → Int, y.schP (b :: L) P g = ((y.blo b ≤ g b ∧ g b ≤ y.bhi b ∧ y.okAt P g b (g b) = true) ∧ y.schP L (P ++ [b]) g) := fun g => rfl
  obtain ⟨bb, hbb⟩ : ∃ bb : Int, (b : Int) = bb := ⟨_, rfl⟩
  have hb0 : O.nat bb = b := by rw [← hbb]; exact hnat b
  have hfl0 : fl (O.nat 0) = bb := by
    have e0 : O.nat 0 = 0 := hnat 0
    rw [e0, hfl 0 (by show 0 < L.length + 1; omega), ← hbb]; rfl
  have h10 : 10 ^ (b :: L).length = 10 * 10 ^ L.length := by rw [List.length_cons, Nat.pow_succ, Nat.mul_comm]
  rw [h10] at hmu
  obtain ⟨W, hW⟩ : ∃ W, 10 ^ L.length = W := ⟨_, rfl⟩
  rw [hW] at hmu hround
  obtain ⟨G, hG⟩ : ∃ G : Int → σ → σ, G = fun v a => if y.okAt P f b v = true then foldS y next L (P ++ [b]) (setI f b v) a else a := ⟨_, rfl⟩
  have hmG : ∀ v a, μ (G v a) ≤ μ a + W := fun v a => by
    rw [hG, ← hW]
    show μ (if y.okAt P f b v = true then _ else a) ≤ _
    split
    · exact mu_foldS hμ hfit L (P ++ [b]) (setI f b v) a hLn
    · exact Nat.le_add_right _ _
  have hmi : ∀ i, i < (y.bhi b - y.blo b + 1).toNat → μ (foldV G (y.blo b) i s) + W ≤ 1000000 := fun i hi => by
    have k1 := mu_foldV (μ := μ) hmG (y.blo b) i s
    have k2 : i * W ≤ 9 * W := Nat.mul_le_mul_right _ (by omega)
    omega
  have hGf : ∀ i, (if y.okAt P f b (y.blo b + (i : Nat)) = true then foldS y next L (P ++ [b]) (setI f b (y.blo b + (i : Nat))) (foldV G (y.blo b) i s) else foldV G (y.blo b) i s) = foldV G (y.blo b) (i + 1) s := fun i => by
    show _ = G (y.blo b + (i : Nat)) (foldV G (y.blo b) i s)
    rw [hG]
  rw [← hG] at hfold
  have hall := all97 (K := fun i st => ∃ E' cl' fa' h' q n, st = ⟨lvR bgR (y.blo b) (y.bhi b) bb (.sb false) N ex fl ++ bgH y E' cl' (arrC fa') yid (h' q), n⟩ ∧ (q = 48 ∨ 60 ≤ q) ∧ q < n ∧ 60 ≤ n ∧ y.Rep P f E' ∧ (∀ j, j ∉ b :: L → fa' j = f j) ∧ K (foldV G (y.blo b) i s) h')
    (stop := fun i st => ∃ E' cl' fa' h' g s' q n, st = ⟨lvR bgRx (y.blo b) (y.bhi b) bb (.sb false) N ex fl ++ bgH y E' cl' (arrC fa') yid (h' q), n⟩ ∧ (q = 48 ∨ 60 ≤ q) ∧ q < n ∧ 60 ≤ n ∧ LowM 49 h' ∧ (E'.map (·.1.1)).Nodup ∧ (∀ j, j ∉ b :: L → g j = f j) ∧ y.okAt P f b (y.blo b + i) = true ∧ g b = y.blo b + i ∧ y.schP L (P ++ [b]) g ∧ stop s' g h')
    (y := 59) (m := 57) (lo := y.blo b) (hi := y.bhi b) (by omega) (by omega) (by omega) (fun i st ⟨E', cl', fa', h', q, n, e, _⟩ => by rw [e]; exact ⟨none, false, rfl⟩)
    (fun i st hi' ⟨E', cl', fa', h', q, n, e, kq, kn, k6, k1, k2, k3⟩ => by
      rw [e]
      have hr := hround (y.blo b + i) (by omega) (by omega) fa' E' cl' _ h' k1 k2 (hmi i hi') k3
      have hr2 := YieldW.lowM (m := 60) (n := n) (q := q) (H := lvM bgR (y.blo b) (y.bhi b) b (.sb false) N ex fl (bgM y E' cl' (arrC fa') yid h')) (by omega) (by omega) (by omega) k6 kq kn (lvM_low (s := bgR.state) (c := bgR.pending) Below.sb (bgM_low hy (hlow _ _ k3))) (fun a ha => by rw [List.mem_singleton.1 ha]; exact Below.lit) hr
      rw [hbb] at hr2
      refine hr2.mono fun r st' hk => ?_
      obtain ⟨H', q', n', hk, _, hn', hq', hqn, rfl⟩ := hk
      unfold rnK at hk
      rw [hbb, hGf] at hk
      rcases hk with ⟨rfl, E2, c2, f2, h2, rfl, _, j1, j2, j3⟩ | ⟨rfl, E2, c2, f2, h2, g, s', rfl, hk⟩
      · exact .inl ⟨rfl, E2, c2, f2, h2, q', n', rfl, by omega, hqn, by omega, j1, j2, j3⟩
      · exact .inr ⟨rfl, E2, c2, f2, h2, g, s', q', n', rfl, by omega, hqn, by omega, hk⟩) (st := ⟨lvR bgR (y.blo b) (y.bhi b) bb (.sb false) N ex fl ++ bgH y E cl (arrC fa) yid (h 48), 60⟩) ⟨E, cl, fa, h, 48, 60, rfl, .inl rfl, by omega, by omega, hrep, hfa, hK⟩
  clear hround
  have hlow0 : ∀ id o, Hp.get (bgH y E cl (arrC fa) yid (h 48)) id = some o → id < 54 := fun id o ho => by
    have := ((bgM_low (y := y) (E := E) (cl := cl) (f := fa) hy (hlow s h hK)).id 48 id o (.inl rfl) ho).1
    omega
  obtain ⟨h48, hh48⟩ : ∃ x, h 48 = x := ⟨_, rfl⟩
  rw [hh48] at hlow0 hall ⊢
  have hr71 : CallW Try.prog 71 [rangeV (y.blo (O.nat bb)) (y.bhi (O.nat bb))] ⟨(56, .cells none false [iV bb]) :: (55, .cells none false [.sb false]) :: (54, .cells none false [.isl N 1 ex (intC fl)]) :: bgH y E cl (arrC fa) yid h48, 57⟩ (fun v st' => v = .fn (.func 97) [] [.ptr 57 0] ∧ st' = ⟨(57, .cells none false [iV (y.blo b), iV (y.bhi b)]) :: (56, .cells none false [iV bb]) :: (55, .cells none false [.sb false]) :: (54, .cells none false [.isl N 1 ex (intC fl)]) :: bgH y E cl (arrC fa) yid h48, 58⟩) := by
    rw [hb0]; exact range71 _ _ _ _
  have hlen : (b :: L).length = N := hN
  rw [hlen]
  have hN1 : 0 < N := by omega
  have hbnb : 0 ≤ bb ∧ bb < (y.nb : Int) := by omega
  clear hbg
  obtain ⟨lo, hlo⟩ : ∃ x, y.blo b = x := ⟨_, rfl⟩
  obtain ⟨hi, hhi⟩ : ∃ x, y.bhi b = x := ⟨_, rfl⟩
  have hME := mkE_below E
  unfold bgH at hlow0 hr71
  show CallW Try.prog 110 _ ⟨(53, .cells none false [beginV]) :: (52, .cells none false (arrC fa)) :: (51, .cells none false (workC y (.mp 50))) :: (50, .map (mkE E) cl) :: (49, .cells none false [.yld yid]) :: h48, 54⟩ _
  replace hall := (show CallW Try.prog 97 [.yld 59, .ptr 57 0] ⟨lvR bgR (y.blo b) (y.bhi b) bb (.sb false) N ex fl ++ ((53, .cells none false [beginV]) :: (52, .cells none false (arrC fa)) :: (51, .cells none false (workC y (.mp 50))) :: (50, .map (mkE E) cl) :: (49, .cells none false [.yld yid]) :: h48), 60⟩ _ from hall)
  obtain ⟨ME, hMEe⟩ : ∃ m, mkE E = m := ⟨_, rfl⟩
  rw [hMEe] at hlow0 hr71 hall ⊢
  refine callW_of_body tok Try.func110 rfl ?_
  refine SW.seqRun tok hO (by cbv <;> rfl) (by trivial) ?_
  refine SW.seq ?_
  refine SW.seqRun tok hO (by cbv <;> rfl) (by trivial) ?_
  refine SW.condS (by cbv <;> rfl) (fun h1 => ?_) (fun h1 => SW.skip ?_)
  · exfalso
    have : (N : Int) = 0 := by subst hO; simpa [std] using h1
    omega
  show SW _ _ _ _ _ _
  refine SW.seqRun tok hO (by cbv <;> rfl) ?_ ?_
  · exact ⟨Int.le_refl _, Int.ofNat_lt.2 hN1⟩
  refine (show SW Try.prog none _ _ _ ⟨(56, .cells none false [iV (fl (O.nat 0))]) :: (55, .cells none false [.sb false]) :: (54, .cells none false [.isl N 1 ex (intC fl)]) :: (53, .cells none false [beginV]) :: (52, .cells none false (arrC fa)) :: (51, .cells none false (workC y (.mp 50))) :: (50, .map ME cl) :: (49, .cells none false [.yld yid]) :: h48, 57⟩ from ?_)
  refine SW.fmT (len := 50) [(2, .ptr 52 0), (3, .ptr 51 0), (4, .ptr 53 0), (5, .ptr 54 0), (6, .ptr 55 0), (7, .ptr 56 0)] rfl rfl ⟨⟨rfl, .inl rfl⟩, ⟨rfl, .inl rfl⟩, ⟨rfl, .inl rfl⟩, ⟨rfl, .inl rfl⟩, ⟨rfl, .inl rfl⟩, ⟨rfl, .inl rfl⟩, trivial⟩ (fun id o ho => by
    simp only [Hp.get] at ho
    split at ho
    · omega
    split at ho
    · omega
    split at ho
    · omega
    have := hlow0 id o ho
    omega) ?_
  rw [hfl0]
  refine SW.seq ?_
  refine SW.seqRun tok hO (by cbv <;> rfl) ?_ ?_
  · exact hbnb
  refine OpsW.callS en71 hr71 (by cbv <;> rfl) fun r st' hk => ?_
  obtain ⟨rfl, rfl⟩ := hk
  refine OpsW.run tok hO (by cbv <;> rfl) (by trivial) ?_
  refine SW.block ?_
  refine (show SW Try.prog none _ _ _ ⟨(57, .cells none false [iV (y.blo b), iV (y.bhi b)]) :: (56, .cells none false [iV bb]) :: (55, .cells none false [.sb false]) :: (54, .cells none false [.isl N 1 ex (intC fl)]) :: (53, .cells none false [beginV]) :: (52, .cells none false (arrC fa)) :: (51, .cells none false (workC y (.mp 50))) :: (50, .map ME cl) :: (49, .cells none false [.yld yid]) :: h48, 58⟩ from ?_)
  refine SW.fmT (len := 50) bgL rfl rfl ⟨⟨rfl, .inl rfl⟩, ⟨rfl, .inl rfl⟩, ⟨rfl, .inl rfl⟩, ⟨rfl, .inl rfl⟩, ⟨rfl, .inl rfl⟩, ⟨rfl, .inl rfl⟩, ⟨rfl, .inl rfl⟩, trivial⟩ (fun id o ho => by
    simp only [Hp.get] at ho
    split at ho
    · omega
    split at ho
    · omega
    split at ho
    · omega
    split at ho
    · omega
    have := hlow0 id o ho
    omega) ?_
  refine SW.rangeFunc (gf := 97) (first := []) (caps := [.ptr 57 0]) (by rfl) en97 ?_
  refine CallW.mono (show CallW Try.prog 97 [.yld 59, .ptr 57 0] ⟨lvR bgR (y.blo b) (y.bhi b) bb (.sb false) N ex fl ++ ((53, .cells none false [beginV]) :: (52, .cells none false (arrC fa)) :: (51, .cells none false (workC y (.mp 50))) :: (50, .map ME cl) :: (49, .cells none false [.yld yid]) :: h48), 60⟩ _ from hall) fun r st' hk => ?_
  clear hall hr71 hlow0
  have hlowA := fun (E2 : Mk4) (c2 : Nat) (f2 : Nat → Int) (h2 : Nat → Hp) (hl2 : LowM 49 h2) => bgM_low (y := y) (E := E2) (cl := c2) (f := f2) hy hl2
  rcases hk with ⟨E2, c2, f2, h2, q2, n2, rfl, kq, kn, k6, j1, j2, j3⟩ | ⟨i, hi', E2, c2, f2, h2, g, s', q2, n2, rfl, kq, kn, k6, j0, j1, j2, j3, j4, j5, j6⟩
  · have hl2 := hlow _ _ j3
    have hbk : bgK y next K stop yid (b :: L) P f s (.sb true) (bgM y E2 c2 (arrC f2) yid h2) := .inl ⟨rfl, E2, c2, f2, h2, rfl, hl2, j1, j2, by rw [hfold]; exact j3⟩
    have o3 : ∀ id o, Hp.get (bgH y E2 c2 (arrC f2) yid (h2 q2)) id = some o → id < 54 ∨ 60 ≤ id := fun id o ho => by
      have := ((hlowA E2 c2 f2 h2 hl2).id q2 id o (by omega) ho).1
      omega
    have o4 : ∀ id o, Hp.get (bgH y E2 c2 (arrC f2) yid (h2 q2)) id = some o → Hp.get (lvR { bgR with state := .exhausted } (y.blo b) (y.bhi b) bb (.sb true) N ex fl ++ bgH y E2 c2 (arrC f2) yid (h2 q2)) id = some o := fun id o ho => by rw [lvR_get2 (o3 id o ho)]; exact ho
    have hend : ∀ st' : St, n2 = st'.n → (∀ id o, Hp.get (bgM y E2 c2 (arrC f2) yid h2 q2) id = some o → st'.h.get id = some o) → LowP 54 (bgK y next K stop yid (b :: L) P f s) (.sb true) st' := fun st' e h3 => ⟨_, q2, hbk, Below.sb, hlowA E2 c2 f2 h2 hl2, by omega, by omega, h3⟩
    unfold bgM at hend
    obtain ⟨hq2, hhq⟩ : ∃ x, h2 q2 = x := ⟨_, rfl⟩
    rw [hhq] at o3 o4 hend ⊢
    obtain ⟨ME2, hME2⟩ : ∃ m, mkE E2 = m := ⟨_, rfl⟩
    unfold bgH at o3 hend
    unfold bgH lvR at o4 ⊢
    rw [hME2] at o3 o4 hend ⊢
    refine ⟨bgR, rfl, (fun h => by simp [bgR] at h), ?_⟩
    show SW _ _ _ _ _ _
    refine SW.seqRun tok hO (by cbv <;> rfl) (by trivial) ?_
    exact SW.ret ⟨_, _, rfl, rfl, hend _ rfl fun id o ho => (Hp.get_set _ 58 _ id).trans ((if_neg (fun hc => by have := o3 id o ho; omega)).trans (o4 id o ho))⟩
  · have hbk : bgK y next K stop yid (b :: L) P f s (.sb false) (bgM y E2 c2 (arrC f2) yid h2) := .inr ⟨rfl, E2, c2, f2, h2, g, s', rfl, j0, j1, j2, ⟨⟨by omega, by omega, by
        rw [j4, ok_congr y (fun p hp => j2 p (fun hm => by
          have := (List.pairwise_append.1 hPL).2.2 p hp p hm
          exact Nat.lt_irrefl _ this)) b]
        exact j3⟩, j5⟩, j6⟩
    have o3 : ∀ id o, Hp.get (bgH y E2 c2 (arrC f2) yid (h2 q2)) id = some o → id < 54 ∨ 60 ≤ id := fun id o ho => by
      have := ((hlowA E2 c2 f2 h2 j0).id q2 id o (by omega) ho).1
      omega
    have o4 : ∀ id o, Hp.get (bgH y E2 c2 (arrC f2) yid (h2 q2)) id = some o → Hp.get (lvR { bgRx with state := .exhausted } (y.blo b) (y.bhi b) bb (.sb false) N ex fl ++ bgH y E2 c2 (arrC f2) yid (h2 q2)) id = some o := fun id o ho => by rw [lvR_get2 (o3 id o ho)]; exact ho
    have hend : ∀ st' : St, n2 = st'.n → (∀ id o, Hp.get (bgM y E2 c2 (arrC f2) yid h2 q2) id = some o → st'.h.get id = some o) → LowP 54 (bgK y next K stop yid (b :: L) P f s) (.sb false) st' := fun st' e h3 => ⟨_, q2, hbk, Below.sb, hlowA E2 c2 f2 h2 j0, by omega, by omega, h3⟩
    unfold bgM at hend
    obtain ⟨hq2, hhq⟩ : ∃ x, h2 q2 = x := ⟨_, rfl⟩
    rw [hhq] at o3 o4 hend ⊢
    obtain ⟨ME2, hME2⟩ : ∃ m, mkE E2 = m := ⟨_, rfl⟩
    unfold bgH at o3 hend
    unfold bgH lvR at o4 ⊢
    rw [hME2] at o3 o4 hend ⊢
    refine ⟨bgRx, rfl, (fun h => by simp [bgRx, bgR] at h), ?_⟩
    exact SW.ret ⟨_, _, rfl, rfl, hend _ rfl fun id o ho => (Hp.get_set _ 58 _ id).trans ((if_neg (fun hc => by have := o3 id o ho; omega)).trans (o4 id o ho))⟩
theorem bg_all (hμ : ∀ s f, μ (next s f) ≤ μ s + 1) (hy : yid < 48) (hlow : ∀ s h, K s h → LowM 49 h) (hfit : y.Fit) (step : bgStep next K stop yid μ) : ∀ (L P : List Nat), (P ++ L).Pairwise (· < ·) → (∀ p ∈ P ++ L, p < y.nb) → bgP y next K stop yid μ L P
  | [], P, _, _ => bg_leaf hy hlow step P
  | b :: L, P, h1, h2 => bg_step hμ hy hlow hfit b (h2 b (List.mem_append_right _ List.mem_cons_self)) L P (fun p hp => h2 p (List.mem_append_right _ (List.mem_cons_of_mem _ hp))) h1 (fun p hp => h2 p (List.mem_append_left _ hp))
      (bg_all hμ hy hlow hfit step L (P ++ [b]) (by rw [List.append_assoc]; exact h1) (by rw [List.append_assoc]; exact h2))
end
end Go.Fz
set_option linter.unusedVariables false
namespace Go.Fz
open Go.Proofs
set_option maxRecDepth 100000
section
variable {P : Program} {T : Ti}
def mkmAt (ops : Array Oper) (i : Nat) (f : Fm) : Bool := match ops[i]? with
  | none => false
  | some o => match wantA ops f.ts o with
    | some true => match o.op with
      | .makeMap _ none => true
      | _ => false
    | _ => false
theorem OpsW.mkMap {rd : Option Nat} {ops : Array Oper} {K : Fm → St → Prop} {f : Fm} {st : St} {i : Nat} {l : List Nat} (hx : mkmAt ops i f = true) (h : OpsW P rd ops l K (putAt ops i f (.mp st.n)) (st.push (.map [] 0))) : OpsW P rd ops (i :: l) K f st := by
  unfold mkmAt at hx
  split at hx
  · cases hx
  · rename_i o ho
    split at hx
    · rename_i hw
      split at hx
      · rename_i t hop
        have hput : ∀ v, putAt ops i f v = f.put o.dst v := fun v => by simp [putAt, ho]
        rw [hput] at h
        refine OpsW.value ho hw (fun c hc => by rw [hop] at hc; cases hc) (fun φ w a h2 h3 => ?_) h
        have hp := h2.push (.map #[] 0) (.map [] 0) ⟨w.heap.size, 0, 0⟩ rfl ⟨#[], by rw [Fi.push_new]; exact alloc_heap_new' w _, rfl, fun i x h => by simp at h⟩ (fun _ h => by cases h)
        refine ⟨_, _, .map (some w.heap.size), .inl ?_, ?_, hp.1, φ.push_ext _, hp.2⟩
        · simp [execOp, hop, Instr.makeMap, Result.andThen]
        · have := VR.mp (φ := φ.push ⟨w.heap.size, 0, 0⟩) φ.n (by rw [Fi.push_n]; omega)
          rw [Fi.push_new] at this
          rw [← h2.n]; exact this
      · cases hx
    · cases hx
end
theorem load_yard {y : YardD} {h : Hp} {id : Nat} {fm : Option Nat} {ro : Bool} (hg : h.get id = some (.cells fm ro (yardC y))) : loadA T h 35 (.ptr id 0) = some (yardV y) := by
  simp only [loadA, ptrOf, cellsAt, hg]
  rfl
theorem load_list {v : AV} {h : Hp} {id : Nat} {fm : Option Nat} {ro : Bool} (hg : h.get id = some (.cells fm ro [v])) : loadA T h 26 (.ptr id 0) = some v := by
  simp only [loadA, ptrOf, cellsAt, hg]
  rfl
theorem sched99 (y : YardD) (N : Nat) (ex : Bool) (fl : Nat → Int) (h : Hp) (n : Nat) : CallW Try.prog 99 [yardV y, .isl N 1 ex (intC fl)] ⟨h, n⟩ (fun v st' => v = .fn (.func 109) [] [.ptr n 0, .ptr (n + 1) 0] ∧ st' = ⟨(n + 1, .cells none false [.isl N 1 ex (intC fl)]) :: (n, .cells none false (yardC y)) :: h, n + 2⟩) := by
  obtain ⟨O, hO⟩ : ∃ O : Ar, O = std := ⟨_, rfl⟩
  refine callW_of_body tok Try.func99 rfl ?_
  refine SW.seqRun tok hO (by cbv <;> rfl) (by trivial) ?_
  refine SW.seqRun tok hO (by cbv <;> rfl) (by trivial) ?_
  exact SW.ret ⟨_, _, rfl, rfl, rfl, rfl⟩
theorem len_le {n : Nat} : ∀ {k : Nat} {l : List Nat}, k ≤ n → l.Pairwise (· < ·) → (∀ p ∈ l, k ≤ p ∧ p < n) → l.length ≤ n - k
  | k, [], _, _, _ => Nat.zero_le _
  | k, b :: l, hk, h, hl => by
    have hb := hl b List.mem_cons_self
    have := len_le (k := b + 1) (l := l) hb.2 (List.pairwise_cons.1 h).2 (fun p hp => ⟨(List.pairwise_cons.1 h).1 p hp, (hl p (List.mem_cons_of_mem _ hp)).2⟩)
    rw [List.length_cons]
    omega
section
variable {σ : Type} {y : YardD} {next : σ → (Nat → Int) → σ} {K : σ → (Nat → Hp) → Prop} {stop : σ → (Nat → Int) → (Nat → Hp) → Prop} {yid : Nat} {μ : σ → Nat}
def scK (y : YardD) (next : σ → (Nat → Int) → σ) (K : σ → (Nat → Hp) → Prop) (stop : σ → (Nat → Int) → (Nat → Hp) → Prop) (L : List Nat) (s : σ) (h' : Nat → Hp) : Prop := K (foldS y next L [] (fun _ => 0) s) h' ∨ ∃ g s', (∀ j, j ∉ L → g j = 0) ∧ y.schP L [] g ∧ stop s' g h'
def scQ (y : YardD) (next : σ → (Nat → Int) → σ) (K : σ → (Nat → Hp) → Prop) (stop : σ → (Nat → Int) → (Nat → Hp) → Prop) (L : List Nat) (s : σ) (st' : St) : Prop := ∃ h' q n, st' = ⟨h' q, n⟩ ∧ 49 ≤ n ∧ (q = 48 ∨ 49 ≤ q) ∧ q < n ∧ LowM 49 h' ∧ scK y next K stop L s h'
set_option maxHeartbeats 8000000 in
theorem sched109 (hμ : ∀ s f, μ (next s f) ≤ μ s + 1) (hy : yid < 48) (hlow : ∀ s h, K s h → LowM 49 h) (hfit : y.Fit) (step : bgStep next K stop yid μ) (L : List Nat) (hL : L.Pairwise (· < ·)) (hLn : ∀ p ∈ L, p < y.nb) (ex : Bool) (fl : Nat → Int) (hfl : ∀ i, i < L.length → fl i = (L.getD i 0 : Nat))
    (s : σ) (hs : μ s = 0) (h : Nat → Hp) (n0 : Nat) (hn0 : n0 ≤ 49) (yb lb : Nat) (hyb : ∃ fm ro, (h 48).get yb = some (.cells fm ro (yardC y))) (hlb : ∃ fm ro, (h 48).get lb = some (.cells fm ro [.isl L.length 1 ex (intC fl)])) (hK : K s h) :
    CallW Try.prog 109 [.yld yid, .ptr yb 0, .ptr lb 0] ⟨h 48, n0⟩ (fun _ st' => scQ y next K stop L s st') := by
  obtain ⟨O, hO⟩ : ∃ O : Ar, O = std := ⟨_, rfl⟩
  obtain ⟨fm1, ro1, hyg⟩ := hyb
  obtain ⟨fm2, ro2, hlg⟩ := hlb
  have hl0 := hlow s h hK
  have hyb49 : yb < 49 := by have := (hl0.id 48 yb _ (.inl rfl) hyg).1; omega
  have hlb49 : lb < 49 := by have := (hl0.id 48 lb _ (.inl rfl) hlg).1; omega
  have hten : μ s + 10 ^ L.length ≤ 1000000 := by
    have h1 := len_le (n := 6) (k := 0) (by omega) hL (fun p hp => ⟨Nat.zero_le _, Nat.lt_of_lt_of_le (hLn p hp) hfit.nb⟩)
    have h2 : 10 ^ L.length ≤ 10 ^ 6 := Nat.pow_le_pow_right (by omega) (by omega)
    omega
  have hcall := bg_all (K := K) (stop := stop) (next := next) (μ := μ) hμ hy hlow hfit step L [] hL (by simpa using hLn) ex fl (fun _ => 0) (fun _ => 0) [] 0 s h hfl (YardD.Rep.nil y _) (fun _ _ => rfl) hten hK
  obtain ⟨h48, hh48⟩ : ∃ x, h 48 = x := ⟨_, rfl⟩
  rw [hh48] at hcall hyg hlg ⊢
  refine CallW.weak (k1 := fun _ st1 => ∃ h' q, (∀ id o, Hp.get (h' q) id = some o → st1.h.get id = some o) ∧ 49 ≤ st1.n ∧ (q = 48 ∨ 49 ≤ q) ∧ q < st1.n ∧ LowM 49 h' ∧ scK y next K stop L s h') ?_
    (fun v st1 ⟨h', q, hg, hn, hq, hqn, hl, hk⟩ => .inr ⟨.any, ⟨h' q, st1.n⟩, ⟨.inl rfl, Nat.le_trans hn0 hn, Nat.le_refl _, fun id o ho => ⟨hg id o ho, by
      have := (hl.id q id o hq ho).1
      show id < st1.n
      omega, .inl rfl⟩⟩, h', q, st1.n, rfl, hn, hq, hqn, hl, hk⟩)
  refine CallW.pad (n := 49) hn0 ?_
  refine callW_of_body tok Try.func109 rfl ?_
  refine SW.seqRun tok hO (by cbv <;> rfl) (by trivial) ?_
  refine SW.seq (SW.runN tok hO 0 (by cbv <;> rfl) (by trivial) ?_)
  refine OpsW.ldI tok (by cbv <;> rfl) (load_yard (y := y) (by show Hp.get ((49, _) :: h48) yb = _; simp only [Hp.get]; rw [if_neg (by omega)]; exact hyg)) ?_
  refine OpsW.mkMap (by rfl) ?_
  refine OpsW.run tok hO (by cbv <;> rfl) (by trivial) ?_
  refine SW.seqRun tok hO (by cbv <;> rfl) (by trivial) ?_
  refine SW.seqRun tok hO (by cbv <;> rfl) (by trivial) ?_
  refine SW.seqRun tok hO (by cbv <;> rfl) (by trivial) ?_
  refine SW.runN tok hO 1 (by cbv <;> rfl) (by trivial) ?_
  refine OpsW.ldI tok (by cbv <;> rfl) (load_list (v := .isl L.length 1 ex (intC fl)) (fm := fm2) (ro := ro2) (by
    show Hp.get ((53, _) :: (52, _) :: (51, _) :: (50, _) :: (49, _) :: h48) lb = _
    simp only [Hp.get]
    rw [if_neg (by omega), if_neg (by omega), if_neg (by omega), if_neg (by omega), if_neg (by omega)]
    exact hlg)) ?_
  refine OpsW.apply (c := beginV) (args := [.isl L.length 1 ex (intC fl)]) (by cbv <;> rfl) ⟨en110, hcall⟩ fun v st' hk => ?_
  obtain ⟨H', q', hk, _, hl54, hn, hq', hg⟩ := hk
  have hsub : ∀ {E' : Mk4} {cl' : Nat} {f' : Nat → Int} {h' : Nat → Hp}, LowM 49 h' → H' = bgM y E' cl' (arrC f') yid h' → ∀ id o, Hp.get (h' q') id = some o → st'.h.get id = some o := fun {E' cl' f' h'} hl' e id o ho => by
    refine hg id o ?_
    have := (hl'.id q' id o (by omega) ho).1
    rw [e]
    unfold bgM bgH
    simp only [Hp.get]
    rw [if_neg (by omega), if_neg (by omega), if_neg (by omega), if_neg (by omega), if_neg (by omega)]
    exact ho
  have hfin : ∃ h' q, (∀ id o, Hp.get (h' q) id = some o → st'.h.get id = some o) ∧ 49 ≤ st'.n ∧ (q = 48 ∨ 49 ≤ q) ∧ q < st'.n ∧ LowM 49 h' ∧ scK y next K stop L s h' := by
    rcases hk with ⟨_, E3, c3, f3, h3, e, hl3, _, _, hK3⟩ | ⟨_, E3, c3, f3, h3, g, s', e, hl3, _, hgf, hsch, hS⟩
    · exact ⟨h3, q', hsub hl3 e, by omega, by omega, by omega, hl3, .inl hK3⟩
    · exact ⟨h3, q', hsub hl3 e, by omega, by omega, by omega, hl3, .inr ⟨g, s', hgf, hsch, hS⟩⟩
  refine OpsW.nil ?_
  exact ⟨_, _, rfl, rfl, hfin⟩
end
end Go.Fz
set_option linter.unusedVariables false
namespace Go.Fz
open Go.Proofs
set_option maxRecDepth 100000
def YardD.canL (y : YardD) (L : List Nat) : Bool := foldS y (fun _ _ => true) L [] (fun _ => 0) false
theorem YardD.canL_iff (y : YardD) {L : List Nat} (hL : L.Pairwise (· < ·)) : y.canL L = true ↔ ∃ g, (∀ b, b ∉ L → g b = 0) ∧ y.Sch L g := by
  have := foldS_all (y := y) (next := fun (_ : Bool) (_ : Nat → Int) => true) (S := fun b => b = true) (G := fun _ => True) (fun _ _ => by simp) hL false
  rw [show y.canL L = foldS y (fun _ _ => true) L [] (fun _ => 0) false from rfl, this]
  simp
theorem YardD.canL_sch (y : YardD) {L : List Nat} (hL : L.Pairwise (· < ·)) {g : Nat → Int} (hg : ∀ j, j ∉ L → g j = 0) (hs : y.schP L [] g) : y.canL L = true := by
  have hnd : L.Nodup := hL.imp fun h => Nat.ne_of_lt h
  have := foldS_ex (y := y) (next := fun (_ : Bool) (_ : Nat → Int) => true) (S := fun b => b = true) (G := fun _ => True) (fun _ _ => by simp) L [] (fun _ => 0) false hnd (fun _ _ h => by cases h)
  exact this.2 (.inr ⟨g, hg, hs, trivial⟩)
noncomputable def hsParts : Code × Code := match findRF (bodyF Try.f78) with
  | some p => p
  | none => (.skip, .skip)
def hsL : List (Nat × AV) := [(4, .ptr 1 0), (7, .fn (.func 109) [] [.ptr 2 0, .ptr 3 0])]
noncomputable def hsR : ALoop := { state := .ready, pending := none, tmps := ⟨9, getT hsL⟩, params := #[8], assign := hsParts.1, body := hsParts.2, dfid := 4 }
noncomputable def hsRx : ALoop := { hsR with state := .done, pending := some .ret }
def hsH (y : YardD) (N : Nat) (ex : Bool) (fl : Nat → Int) (r : ALoop) (X : AV) : Hp :=
  [(5, .loop r), (4, .dfr), (3, .cells none false [.isl N 1 ex (intC fl)]), (2, .cells none false (yardC y)), (1, .cells none false [X]), (0, .cells none false (yardC y))]
theorem hsH_low {y : YardD} {N : Nat} {ex : Bool} {fl : Nat → Int} {s : LoopState} {c : Option Code} {X : AV} (hX : Below 0 X) : LowX 48 (hsH y N ex fl { hsR with state := s, pending := c } X) := by
  have hp : ∀ {ρ : Nat → Nat} {n j : Nat}, (∀ i, i < 48 → ρ i = i) → 48 ≤ n → j < 48 → RenV ρ n (.ptr j 0) (.ptr j 0) := fun {ρ n j} hρ hn hj => by
    have := RenV.ptr (ρ := ρ) (n := n) (j := j) (off := 0) (by omega)
    rwa [hρ j hj] at this
  unfold hsH
  refine LowX.cons (by omega) ⟨rfl, rfl, fun ρ n hρ hn => .base (.loop rfl rfl rfl rfl rfl (by show 4 = ρ 4; rw [hρ 4 (by omega)]) (by show 4 < n; omega) rfl (RenV.getT (l := hsL) ⟨hp hρ hn (by omega), RenV.fn .nil (.cons (hp hρ hn (by omega)) (.cons (hp hρ hn (by omega)) .nil)), trivial⟩))⟩ ?_
  refine LowX.cons (by omega) ⟨rfl, rfl, fun ρ n hρ hn => .base .dfr⟩ ?_
  refine LowX.cons (by omega) (LowO.ints (AllB.ok ⟨Below.isl fun _ _ _ _ => Below.lit, trivial⟩)) ?_
  refine LowX.cons (by omega) (LowO.ints (yardC_below y)) ?_
  refine LowX.cons (by omega) (LowO.ints (AllB.ok ⟨hX, trivial⟩)) ?_
  exact LowX.cons (by omega) (LowO.ints (yardC_below y)) LowX.nil
set_option maxHeartbeats 4000000 in
theorem hs_step (y : YardD) (N : Nat) (ex : Bool) (fl : Nat → Int) : bgStep (fun (_ : Bool) (_ : Nat → Int) => true) (fun s h => s = false ∧ h = fun _ => hsH y N ex fl hsR (.sb false)) (fun _ _ h => h = fun _ => hsH y N ex fl hsRx (.sb true)) 5 (fun _ => 0) := by
  intro s f h _ ⟨_, hh⟩
  subst hh
  obtain ⟨O, hO⟩ : ∃ O : Ar, O = std := ⟨_, rfl⟩
  refine YieldW.of_round (r := hsR) rfl rfl ?_
  refine SW.skip ?_
  refine ⟨hsR, rfl, rfl, SW.block ?_⟩
  refine SW.seqRun tok hO (by cbv <;> rfl) (by trivial) ?_
  exact SW.ret ⟨_, rfl, fun _ => hsH y N ex fl hsRx (.sb true), 48, .inr ⟨rfl, rfl⟩, Below.lit, LowX.mv (by omega) (hsH_low (s := hsRx.state) (c := hsRx.pending) Below.sb), Nat.le_refl _, .inl rfl, fun id o ho => ho⟩
set_option maxHeartbeats 8000000 in
theorem hasSched_ok (y : YardD) (hfit : y.Fit) (L : List Nat) (hL : L.Pairwise (· < ·)) (hLn : ∀ p ∈ L, p < y.nb) (ex : Bool) (fl : Nat → Int) (hfl : ∀ i, i < L.length → fl i = (L.getD i 0 : Nat)) :
    Pure Try.prog 78 [yardV y, .isl L.length 1 ex (intC fl)] (.sb (y.canL L)) := by
  obtain ⟨O, hO⟩ : ∃ O : Ar, O = std := ⟨_, rfl⟩
  have hsc := sched109 (μ := fun _ => 0) (fun _ _ => by omega) (by omega) (fun s h hk => by rw [hk.2]; exact LowX.mv (by omega) (hsH_low (s := hsR.state) (c := hsR.pending) Below.sb)) hfit (hs_step y L.length ex fl) L hL hLn ex fl hfl false rfl (fun _ => hsH y L.length ex fl hsR (.sb false)) 6 (by omega) 2 3 ⟨none, false, rfl⟩ ⟨none, false, rfl⟩ ⟨rfl, rfl⟩
  have hno : foldS y (fun (_ : Bool) (_ : Nat → Int) => true) L [] (fun _ => 0) false = false → y.canL L = false := fun h => h
  have hyes := fun (g : Nat → Int) => y.canL_sch (g := g) hL
  generalize y.canL L = CL at hno hyes ⊢
  obtain ⟨N, hN⟩ : ∃ N, L.length = N := ⟨_, rfl⟩
  rw [hN] at hsc ⊢
  refine pure_of_body tok 3 Try.func78 en78 rfl ⟨yardV_below y, Below.isl fun _ _ _ _ => Below.lit, trivial⟩ Below.sb ?_
  refine SW.seqRun tok hO (by cbv <;> rfl) (by trivial) ?_
  refine SW.seq ?_
  refine SW.seqRun tok hO (by cbv <;> rfl) (by trivial) ?_
  refine OpsW.callS en99 (sched99 y N ex fl _ _) (by cbv <;> rfl) fun r st' hk => ?_
  obtain ⟨rfl, rfl⟩ := hk
  refine OpsW.run tok hO (by cbv <;> rfl) (by trivial) ?_
  refine SW.block ?_
  refine SW.fmT (len := 9) hsL rfl rfl ⟨⟨rfl, .inl rfl⟩, ⟨rfl, .inl rfl⟩, trivial⟩ (fun id o ho => by
    have := Hp.mem_of_get ho
    simp only [List.mem_cons, Prod.mk.injEq, List.not_mem_nil, or_false] at this
    omega) ?_
  refine SW.rangeFunc (gf := 109) (first := []) (caps := [.ptr 2 0, .ptr 3 0]) (by rfl) en109 ?_
  refine CallW.mono (show CallW Try.prog 109 [.yld 5, .ptr 2 0, .ptr 3 0] ⟨hsH y N ex fl hsR (.sb false), 6⟩ _ from hsc) fun r st' hk => ?_
  obtain ⟨h', q, n, rfl, hn, _, _, _, hk | ⟨g, s', hg, hsch, hk⟩⟩ := hk
  · obtain ⟨e, rfl⟩ := hk
    have := hno e
    subst this
    refine ⟨hsR, rfl, (fun h => by simp [hsR] at h), ?_⟩
    show SW _ _ _ _ _ _
    refine SW.seqRun tok hO (by cbv <;> rfl) (by trivial) ?_
    exact SW.ret ⟨_, _, rfl, rfl, Eqv.refl _⟩
  · have hk : h' = fun _ => hsH y N ex fl hsRx (.sb true) := hk
    subst hk
    have := hyes g hg hsch
    subst this
    refine ⟨hsRx, rfl, (fun h => by simp [hsRx, hsR] at h), ?_⟩
    exact SW.ret ⟨_, _, rfl, rfl, Eqv.refl _⟩
end Go.Fz
