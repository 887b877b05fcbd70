/- Own work of the verifier of watercress: FzB8. -/
import Derived.Test.YtpaifaemkoblcaaNa29
set_option linter.unusedVariables false
set_option linter.unusedSimpArgs false
set_option linter.unusedVariables false
namespace Go.Fz
open Go.Proofs
set_option maxRecDepth 100000
def FarmD.lvC (f : FarmD) (l : List Nat) (c : List Int) : Bool := allN f.nl (f.butB (nI l).length (zL (nI l)) (playF f (f.k0 f.nb) (zL c)))
def FarmD.lvs (f : FarmD) (l : List Nat) : Bool := f.chL.any (f.lvC l)
noncomputable def lvParts : Code × Code := match findRF (bodyF Try.f44) with
  | some p => p
  | none => (.skip, .skip)
noncomputable def lwParts : Code × Code := match findRF lvParts.2 with
  | some p => p
  | none => (.skip, .skip)
def lvL : List (Nat × AV) := [(1, .ptr 0 0), (5, .ptr 1 0), (6, .ptr 2 0), (19, .fn (.func 127) [] [.ptr 35 0])]
def lwL : List (Nat × AV) := [(1, .ptr 0 0), (5, .ptr 1 0), (6, .ptr 2 0), (7, .ptr 38 0), (22, .fn (.func 130) [] [.ptr 39 0])]
noncomputable def lvR : ALoop := { state := .ready, pending := none, tmps := ⟨32, getT lvL⟩, params := #[20], assign := lvParts.1, body := lvParts.2, dfid := 36 }
noncomputable def lvRx : ALoop := { lvR with state := .done, pending := some (.exit 0) }
noncomputable def lwR : ALoop := { state := .ready, pending := none, tmps := ⟨32, getT lwL⟩, params := #[23], assign := lwParts.1, body := lwParts.2, dfid := 36 }
noncomputable def lwRx : ALoop := { lwR with state := .done, pending := some (.exit 0) }
def lvH (f : FarmD) (WC : List AV) (r : ALoop) (X : AV) : Hp := [(37, .loop r), (36, .dfr), (2, .cells none false [X]), (1, .cells none false WC), (0, .cells none false (farmL f))]
def lwH (f : FarmD) (WC : List AV) (r : ALoop) (L : AV) (X : AV) (r2 : ALoop) : Hp := (40, .loop r2) :: (39, farmO f) :: (38, .cells none false [L]) :: lvH f WC r X
theorem lvL_below : AllP (fun p : Nat × AV => Below 40 p.2) lvL := ⟨Below.ptr (by omega), Below.ptr (by omega), Below.ptr (by omega), Below.fn (fun _ h => nomatch h) (AllB.ok ⟨Below.ptr (by omega), trivial⟩), trivial⟩
theorem lvH_low {f : FarmD} {WC : List AV} (hW : ∀ a ∈ WC, Below 0 a) {s : LoopState} {c : Option Code} {X : AV} (hX : Below 0 X) {m : Nat} (hm : 38 ≤ m) : LowX m (lvH f WC { lvR with state := s, pending := c } X) := by
  have hp : ∀ {ρ : Nat → Nat} {n j : Nat}, (∀ i, i < m → ρ i = i) → m ≤ n → j < 38 → RenV ρ n (.ptr j 0) (.ptr j 0) := fun {ρ n j} hρ hn hj => by
    have := RenV.ptr (ρ := ρ) (n := n) (j := j) (off := 0) (by omega)
    rwa [hρ j (by omega)] at this
  unfold lvH
  refine LowX.cons (by omega) ⟨rfl, rfl, fun ρ n hρ hn => .base (.loop rfl rfl rfl rfl rfl (by show 36 = ρ 36; rw [hρ 36 (by omega)]) (by show 36 < n; omega) rfl (RenV.getT (l := lvL) ⟨hp hρ hn (by omega), hp hρ hn (by omega), hp hρ hn (by omega), RenV.fn .nil (.cons (hp hρ hn (by omega)) .nil), trivial⟩))⟩ ?_
  refine LowX.cons (by omega) ⟨rfl, rfl, fun ρ n hρ hn => .base .dfr⟩ ?_
  refine LowX.cons (by omega) (LowO.ints (AllB.ok ⟨hX, trivial⟩)) ?_
  refine LowX.cons (by omega) (LowO.ints hW) ?_
  exact LowX.cons (by omega) (LowO.ints (farmL_below f)) LowX.nil
theorem lvH_ob {f : FarmD} {WC : List AV} (hW : ∀ a ∈ WC, Below 0 a) {s : LoopState} {c : Option Code} {X : AV} (hX : Below 0 X) : ∀ id o, Hp.get (lvH f WC { lvR with state := s, pending := c } X) id = some o → ObjBelow 40 o := fun id o ho => by
  have := Hp.mem_of_get ho
  simp only [lvH, List.mem_cons, List.not_mem_nil, or_false, Prod.mk.injEq] at this
  rcases this with ⟨_, rfl⟩ | ⟨_, rfl⟩ | ⟨_, rfl⟩ | ⟨_, rfl⟩ | ⟨_, rfl⟩
  · exact ⟨fun i => getT_below lvL_below i, by show 36 < 40; omega⟩
  · trivial
  · exact ob_cells (AllB.ok ⟨hX, trivial⟩)
  · exact ob_cells hW
  · exact ob_cells (farmL_below f)
theorem lwH_low {f : FarmD} {WC : List AV} (hW : ∀ a ∈ WC, Below 0 a) {s s2 : LoopState} {c c2 : Option Code} {L X : AV} (hL : Below 0 L) (hX : Below 0 X) : LowM 49 (fun _ => lwH f WC { lvR with state := s, pending := c } L X { lwR with state := s2, pending := c2 }) := by
  have hp : ∀ {ρ : Nat → Nat} {n j : Nat}, (∀ i, i < 48 → ρ i = i) → 48 ≤ n → j < 48 → RenV ρ n (.ptr j 0) (.ptr j 0) := fun {ρ n j} hρ hn hj => by
    have := RenV.ptr (ρ := ρ) (n := n) (j := j) (off := 0) (by omega)
    rwa [hρ j hj] at this
  refine LowX.mv (by omega) ?_
  unfold lwH
  refine LowX.cons (by omega) ⟨rfl, rfl, fun ρ n hρ hn => .base (.loop rfl rfl rfl rfl rfl (by show 36 = ρ 36; rw [hρ 36 (by omega)]) (by show 36 < n; omega) rfl (RenV.getT (l := lwL) ⟨hp hρ hn (by omega), hp hρ hn (by omega), hp hρ hn (by omega), hp hρ hn (by omega), RenV.fn .nil (.cons (hp hρ hn (by omega)) .nil), trivial⟩))⟩ ?_
  refine LowX.cons (by omega) (LowO.ints (farmL_below f)) ?_
  refine LowX.cons (by omega) (LowO.ints (AllB.ok ⟨hL, trivial⟩)) ?_
  exact lvH_low hW hX (by omega)
noncomputable def lvB : ALoop := { lvR with state := .busy }
def lwK (f : FarmD) (l : List Nat) (s : List (List Int)) (H : Nat → Hp) : Prop := (∀ c ∈ s, f.lvC l c = false) ∧ H = fun _ => lwH f (workC f noTr (f.k0 f.nb)) lvB (zV (nI l)) nl3 lwR
def lwS (f : FarmD) (l : List Nat) (s : List (List Int)) (c : List Int) (H : Nat → Hp) : Prop := f.lvC l c = true ∧ H = fun _ => lwH f (workC f noTr (f.k0 f.nb)) lvB (zV (nI l)) (zV (nI l)) lwRx
set_option maxHeartbeats 8000000 in
theorem lw_step {f : FarmD} (g : f.Good) (hsm : f.small) (l : List Nat) (hll : l.length < 1000) : coStep (lwK f l) (lwS f l) 40 f.chL := by
  intro s c post H hE ⟨hs, hh⟩
  subst hh
  obtain ⟨O, hO⟩ : ∃ O : Ar, O = std := ⟨_, rfl⟩
  have hc : c.length = f.ns := ((f.mem_chL c).1 (by rw [hE]; simp)).1
  have e1 := play68 g noTr_below (f.k0 f.nb) hc
  have e2 := rightBut_ok f hsm (playF f (f.k0 f.nb) (zL c)) (nI l).length false (zL (nI l)) (by rw [nI_len]; exact hll) (fun i hi => ⟨(g.look i hi).1.1, by have := (g.look i hi).1.2; have := g.nb; omega⟩)
  have hQ : f.lvC l c = allN f.nl (f.butB (nI l).length (zL (nI l)) (playF f (f.k0 f.nb) (zL c))) := rfl
  rw [← hQ] at e2
  have hcw := workC_below' f 0 noTr (f.k0 f.nb) noTr_below
  have hyes : f.lvC l c = true → ∀ st' : St, 49 ≤ st'.n → (∀ id o, Hp.get (lwH f (workC f noTr (f.k0 f.nb)) lvB (zV (nI l)) (zV (nI l)) lwRx) id = some o → st'.h.get id = some o) → LowP 49 (coR (lwK f l) (lwS f l) s c) (.lit (.bool false)) st' := fun hq st' h1 h2 => ⟨fun _ => lwH f (workC f noTr (f.k0 f.nb)) lvB (zV (nI l)) (zV (nI l)) lwRx, 48, .inr ⟨rfl, hq, rfl⟩, Below.lit, lwH_low hcw (s := .busy) (c := none) (s2 := lwRx.state) (c2 := lwRx.pending) (zV_below _) (zV_below _), h1, .inl rfl, h2⟩
  have hno : f.lvC l c = false → ∀ st' : St, 49 ≤ st'.n → (∀ id o, Hp.get (lwH f (workC f noTr (f.k0 f.nb)) lvB (zV (nI l)) nl3 lwR) id = some o → st'.h.get id = some o) → LowP 49 (coR (lwK f l) (lwS f l) s c) (.lit (.bool true)) st' := fun hq st' h1 h2 => ⟨fun _ => lwH f (workC f noTr (f.k0 f.nb)) lvB (zV (nI l)) nl3 lwR, 48, .inl ⟨rfl, fun l' hl' => by
      rcases List.mem_append.1 hl' with hl' | hl'
      · exact hs l' hl'
      · rw [List.mem_singleton.1 hl']; exact hq, rfl⟩, Below.lit, lwH_low hcw (s := .busy) (c := none) (s2 := lwR.state) (c2 := lwR.pending) (zV_below _) Below.lit, h1, .inl rfl, h2⟩
  obtain ⟨RR, hRR⟩ : ∃ r, LowP 49 (coR (lwK f l) (lwS f l) s c) = r := ⟨_, rfl⟩
  rw [hRR] at hyes hno ⊢
  generalize f.lvC l c = Q at e2 hyes hno
  change Pure Try.prog 71 [farmV f, zV (nI l), watersV (playF f (f.k0 f.nb) (zL c))] (.sb Q) at e2
  obtain ⟨W, hW⟩ : ∃ W, playF f (f.k0 f.nb) (zL c) = W := ⟨_, rfl⟩
  rw [hW] at e1 e2
  obtain ⟨KK, hKK⟩ : ∃ K, f.k0 f.nb = K := ⟨_, rfl⟩
  rw [hKK] at e1 hyes hno ⊢
  obtain ⟨M, FL, hZ⟩ : ∃ M fl, zV c = intsV M false fl := ⟨_, _, rfl⟩
  rw [hZ] at e1 ⊢
  obtain ⟨M2, FL2, hZ2⟩ : ∃ M fl, zV (nI l) = intsV M false fl := ⟨_, _, rfl⟩
  rw [hZ2] at e2 hyes hno ⊢
  obtain ⟨LB, hLB⟩ : ∃ r, lvB = r := ⟨_, rfl⟩
  rw [hLB] at hyes hno ⊢
  unfold lwH lvH at hyes hno ⊢
  refine YieldW.of_round (r := lwR) rfl rfl ?_
  refine SW.run tok hO (by cbv <;> rfl) (by trivial) ?_
  refine ⟨lwR, rfl, rfl, SW.block ?_⟩
  obtain ⟨RB, hRB⟩ : ∃ r, r = ({ lwR with state := .busy } : ALoop) := ⟨_, rfl⟩
  rw [← hRB]
  refine SW.seqRunD tok mixed hO (by kernel_rfl) (by cbv <;> rfl) (by trivial) ?_
  refine AnyE.callP e1 (by cbv <;> rfl) (by cbv <;> rfl) ?_
  refine AnyE.run tok hO (by kernel_rfl) (by cbv <;> rfl) (by trivial) ?_
  refine AnyE.callP e2 (by cbv <;> rfl) (by cbv <;> rfl) ?_
  refine AnyE.run tok hO (by kernel_rfl) (by cbv <;> rfl) (by trivial) ?_
  refine SW.condS (by cbv <;> rfl) (fun h1 => ?_) (fun h1 => SW.skip ?_)
  · refine SW.seqRun tok hO (by cbv <;> rfl) (by trivial) ?_
    subst hRB
    refine SW.exit ?_
    exact ⟨_, rfl, hyes h1 _ (Nat.le_refl _) fun id o ho => ho⟩
  · subst hRB
    exact ⟨_, rfl, hno h1 _ (Nat.le_refl _) fun id o ho => ho⟩
end Go.Fz
