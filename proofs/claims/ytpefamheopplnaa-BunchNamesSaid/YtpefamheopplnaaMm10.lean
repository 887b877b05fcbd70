/- Own work of the verifier of watercress: FzB6, FzB7, FzB8. -/
import Derived.Test.YtpefamheopplnaaMm9
set_option linter.unusedVariables false
set_option linter.unusedSimpArgs false
namespace Go.Fz
open Go.Proofs
set_option maxRecDepth 100000
def ren2 (r1 m1 r2 m2 : Nat) (j : Nat) : Nat := match Nat.beq j r1 with
  | true => m1
  | false => match Nat.beq j r2 with
    | true => m2
    | false => j
theorem WeakR.up2 {n0 r1 m1 r2 m2 : Nat} {f1 : Fm} {st1 : St} {l : List (Nat × AV)} {len : Nat} {dm : List Nat} {hl : Hp} {n2 : Nat} (F : Nat → Option Nat) (hF : ∀ i j f, F i = some f → F j = some f → i = j) (e1 : len = f1.ts.len) (e2 : dm = f1.dm) (e3 : ∀ id ∈ dm, id < n0) (hr1 : n0 ≤ r1) (hr2 : n0 ≤ r2)
    (hinj : ∀ p ∈ hl, ∀ q ∈ hl, ren2 r1 m1 r2 m2 p.1 = ren2 r1 m1 r2 m2 q.1 → p.1 = q.1) (lo : n0 ≤ n2)
    (get : AllP (fun p => RenV (ren2 r1 m1 r2 m2) n2 p.2 (f1.ts.get p.1)) l) (obj : AllP (fun p => p.1 < n2 ∧ ∃ o1, st1.h.get (ren2 r1 m1 r2 m2 p.1) = some o1 ∧ RenO (ren2 r1 m1 r2 m2) n2 p.2 o1 ∧ o1.fam = F p.1) hl) :
    WeakR n0 (ren2 r1 m1 r2 m2) f1 st1 ⟨⟨len, getT l⟩, dm⟩ ⟨hl, n2⟩ := by
  have ho := obj.ok
  refine ⟨e1, e2, e3, fun j hj => ?_, fun i => ?_, lo, fun id o h => ?_, fun i j oi oj hi hj hij pi pj h1 h2 => ⟨fun h => hij ?_, fun ⟨f, k1, k2⟩ => ?_⟩⟩
  · unfold ren2
    cases hb : Nat.beq j r1 with
    | true => have := Nat.eq_of_beq_eq_true hb; omega
    | false => cases hb2 : Nat.beq j r2 with
      | true => have := Nat.eq_of_beq_eq_true hb2; omega
      | false => rfl
  · show RenV _ n2 (getT l i) _
    have hg := get.ok
    clear get obj ho hinj
    induction l with
    | nil => exact RenV.any
    | cons p r ih =>
      obtain ⟨j, a⟩ := p
      simp only [getT]
      cases hb : Nat.beq j i with
      | true =>
        obtain rfl := Nat.eq_of_beq_eq_true hb
        exact hg _ List.mem_cons_self
      | false => exact ih fun q hq => hg q (List.mem_cons_of_mem _ hq)
  · obtain ⟨h3, o1, h4, h5, _⟩ := ho _ (Hp.mem_of_get h)
    exact ⟨h3, o1, h4, h5⟩
  · exact hinj _ (Hp.mem_of_get hi) _ (Hp.mem_of_get hj) h
  · obtain ⟨_, o1, h3, _, h4⟩ := ho _ (Hp.mem_of_get hi)
    obtain ⟨_, o2, h5, _, h6⟩ := ho _ (Hp.mem_of_get hj)
    rw [show ren2 r1 m1 r2 m2 (i, oi).1 = ren2 r1 m1 r2 m2 i from rfl, h1] at h3
    rw [show ren2 r1 m1 r2 m2 (j, oj).1 = ren2 r1 m1 r2 m2 j from rfl, h2] at h5
    cases h3; cases h5
    exact hij (hF i j f (h4.symm.trans k1) (h6.symm.trans k2))
theorem inj_of {l : Hp} {ρ : Nat → Nat} (h : (l.all fun p => l.all fun q => !(Nat.beq (ρ p.1) (ρ q.1)) || Nat.beq p.1 q.1) = true) : ∀ p ∈ l, ∀ q ∈ l, ρ p.1 = ρ q.1 → p.1 = q.1 := fun p hp q hq he => by
  have h1 := List.all_eq_true.1 (List.all_eq_true.1 h p hp) q hq
  rw [he, Nat.beq_refl] at h1
  exact Nat.eq_of_beq_eq_true (by simpa using h1)
def fam2 (a b : Nat) (i : Nat) : Option Nat := match Nat.beq i a with
  | true => some a
  | false => match Nat.beq i b with
    | true => some b
    | false => none
theorem fam2_inj (a b : Nat) : ∀ i j f, fam2 a b i = some f → fam2 a b j = some f → i = j := fun i j f h1 h2 => by
  have key : ∀ i, fam2 a b i = some f → i = f := fun i h => by
    unfold fam2 at h
    cases hb : Nat.beq i a with
    | true => rw [hb] at h; cases h; exact Nat.eq_of_beq_eq_true hb
    | false =>
      rw [hb] at h
      cases hb2 : Nat.beq i b with
      | true => rw [hb2] at h; cases h; exact Nat.eq_of_beq_eq_true hb2
      | false => rw [hb2] at h; cases h
  exact (key i h1).trans (key j h2).symm
theorem lv_of {O : Ar} (hO : O = std) {ops : Array Oper} {h : Hp} {f : Fm} {i j : Nat} {o : Oper} {c : List Cond} {r : AV} (hp : pickD O T ops [] h f [i] = some (j, o, c, r)) (hc : allC c) : lightV T ops h f i = some r := by
  obtain ⟨h1, _, _, h4⟩ := pickD_ok hO hp
  obtain rfl : j = i := by simpa using h1
  exact h4 (allC_ok hc)
def DayD.bun (d : DayD) (t : TruD) (w : Nat) : Int := quo64 (stemN d t.st w t.ns) (t.fe w)
def DayD.lef (d : DayD) (t : TruD) (w : Nat) : Int := (stemN d t.st w t.ns).tmod (t.fe w)
def sumN (b : Nat → Int) : Nat → Int
  | 0 => 0
  | i + 1 => add64 (sumN b i) (b i)
def DayD.all (d : DayD) (t : TruD) : Int := sumN (d.bun t) d.nw
structure TalD where
  n : Nat
  eb : Bool
  bun : Nat → Int
  el : Bool
  lef : Nat → Int
  hands : Int
  loose : Int
  flats : Int
  spare : Int
def talC (y : TalD) : List AV := [intsV y.n y.eb y.bun, intsV y.n y.el y.lef, iV y.hands, iV y.loose, iV y.flats, iV y.spare]
def talV (y : TalD) : AV := .agg (talC y)
theorem talC_below (y : TalD) : ∀ a ∈ talC y, Below 0 a := AllB.ok ⟨intsV_below _ _ _, intsV_below _ _ _, Below.lit, Below.lit, Below.lit, Below.lit, trivial⟩
theorem talV_below (y : TalD) : Below 0 (talV y) := Below.agg (talC_below y)
def DayD.tally (d : DayD) (t : TruD) : TalD where
  n := d.nw
  eb := false
  bun := d.bun t
  el := false
  lef := d.lef t
  hands := quo64 (d.all t) d.hand
  loose := (d.all t).tmod d.hand
  flats := quo64 (quo64 (d.all t) d.hand) d.flat
  spare := (quo64 (d.all t) d.hand).tmod d.flat
theorem intC_below (fl : Nat → Int) (i k : Nat) : Below 0 (intC fl i k) := Below.lit
theorem intC_one (fl : Nat → Int) (i k : Nat) : (intC fl i k).one = true := rfl
theorem Eqv.nil {sz : Nat} {ex : Bool} {g : Nat → Nat → AV} : Eqv (.lit (.slice none 0 0)) (.isl 0 sz ex g) := fun _ _ hv => by cases hv; exact .isl0 _ _ _
def slG (id sz : Nat) : Nat → AV
  | 0 => .lit (.slice none 0 0)
  | n + 1 => .sl id 0 (n + 1) sz false
def tal0 : List AV := [nl3, nl3, iV 0, iV 0, iV 0, iV 0]
theorem tal0_below : ∀ a ∈ tal0, Below 0 a := AllB.ok ⟨Below.lit, Below.lit, Below.lit, Below.lit, Below.lit, Below.lit, trivial⟩
def talS (d : DayD) (t : TruD) (A B : AV) (H : Hp) : St := ⟨H ++ [(3, .cells none false [A, B, iV 0, iV 0, iV 0, iV 0]), (2, .cells none false tal0), (1, .cells none false (truC t)), (0, .cells none false (dayC d))], 6⟩
def objs2 (b l : Nat → Int) : Nat → Hp
  | 0 => []
  | n + 1 => [(4, .cells none false (flatG 1 (intC b) (n + 1))), (5, .cells none false (flatG 1 (intC l) (n + 1)))]
theorem flatG_snoc (fl : Nat → Int) (n : Nat) (v : Int) (h : v = fl n) : flatG 1 (intC fl) n ++ [iV v] = flatG 1 (intC fl) (n + 1) := by
  rw [h]; rfl
set_option maxHeartbeats 8000000 in
theorem tally_ok (d : DayD) (t : TruD) (hf : t.nf = d.nw) (hs : t.ns = d.nl) (hw : d.nw ≤ 4) (hl : d.nl ≤ 4) (hfe : ∀ w, w < d.nw → t.fe w ≠ 0) (hh : d.hand ≠ 0) (hfl : d.flat ≠ 0) : Pure Try.prog 84 [dayV d, truV t] (talV (d.tally t)) := by
  obtain ⟨O, hO⟩ : ∃ O : Ar, O = std := ⟨_, rfl⟩
  have hnat : ∀ i : Nat, O.nat (Int.ofNat i) = i := fun i => by subst hO; rfl
  refine pure_of_body tok 3 Try.func84 en84 rfl ⟨dayV_below d, truV_below t, trivial⟩ (talV_below _) ?_
  refine SW.seqRun tok hO (by cbv <;> rfl) (by trivial) ?_
  refine SW.seqRun tok hO (by cbv <;> rfl) (by trivial) ?_
  refine SW.seqRun tok hO (by cbv <;> rfl) (by trivial) ?_
  obtain ⟨BU, hBU⟩ : ∃ b, b = d.bun t := ⟨_, rfl⟩
  obtain ⟨LE, hLE⟩ : ∃ b, b = d.lef t := ⟨_, rfl⟩
  have hsum : ∀ i v, v = BU i → O.bin .add .i64 (sumN BU i) v = sumN BU (i + 1) := fun i v hv => by subst hv; subst hO; rfl
  refine SW.seq (SW.mono (Q := fun e fm st => e = .normal ∧ ∃ g A B, fm = ⟨⟨61, g⟩, []⟩ ∧ g 2 = .ptr 0 0 ∧ g 4 = .ptr 2 0 ∧ g 5 = .ptr 3 0 ∧ g 6 = iV (sumN BU d.nw) ∧ Eqv A (intsV d.nw false BU) ∧ Eqv B (intsV d.nw false LE) ∧ (A = nl3 ∨ ∃ len sz h, A = .isl len sz false h) ∧ (B = nl3 ∨ ∃ len sz h, B = .isl len sz false h) ∧ st = talS d t A B []) ?_ ?_)
  · refine SW.seqRun tok hO (by cbv <;> rfl) (by trivial) ?_
    refine (SW.block (SW.loopR (fun i : Nat => ⟨⟨61, getT [(2, .ptr 0 0), (3, .ptr 1 0), (4, .ptr 2 0), (5, .ptr 3 0), (6, iV (sumN BU i)), (11, iV d.nw), (12, iV i)]⟩, []⟩) (fun i => talS d t (slG 4 1 i) (slG 5 1 i) (objs2 BU LE i)) (fun i => d.nw - i) (fun i => i ≤ d.nw) 0 (Nat.zero_le _) (ren2 4 4 5 5) ?_ fun i hi => ?_))
    · refine WeakR.up2 (fun _ => none) (fun _ _ _ h => by cases h) rfl rfl (by simp) (by show 4 ≤ 4; omega) (by show 4 ≤ 5; omega) (inj_of (by rfl)) (by show 4 ≤ 6; omega) ⟨RenV.ptr (by omega), RenV.ptr (by omega), RenV.ptr (by omega), RenV.ptr (by omega), RenV.closed Below.lit, RenV.closed Below.lit, RenV.closed Below.lit, trivial⟩
        ⟨⟨by omega, _, rfl, .cells (RenVs.closed tal0_below), rfl⟩, ⟨by omega, _, rfl, .cells (RenVs.closed tal0_below), rfl⟩, ⟨by omega, _, rfl, .cells (RenVs.closed (truC_below t)), rfl⟩, ⟨by omega, _, rfl, .cells (RenVs.closed (dayC_below d)), rfl⟩, trivial⟩
    have hpile := fun (h : i < d.nw) => pile_ok d t i (by omega) (by omega) (by omega)
    have hb := fun (h : i < d.nw) => bunches_ok (t.fe i) (stemN d t.st i t.ns) (hfe i h)
    have hlf := fun (h : i < d.nw) => left_ok (t.fe i) (stemN d t.st i t.ns) (hfe i h)
    have eb : quo64 (stemN d t.st i t.ns) (t.fe i) = BU i := by rw [hBU]; rfl
    have el : (stemN d t.st i t.ns).tmod (t.fe i) = LE i := by rw [hLE]; rfl
    rw [eb] at hb
    rw [el] at hlf
    generalize hF : t.fe i = F at hpile hb hlf
    generalize hS : stemN d t.st i t.ns = S at hpile hb hlf
    have hsum := hsum i
    obtain ⟨acc, hacc⟩ : ∃ acc, acc = sumN BU i := ⟨_, rfl⟩
    rw [← hacc] at hsum ⊢
    cases i with
    | zero =>
      refine SW.seqRun tok hO (by cbv <;> rfl) (by trivial) ?_
      refine SW.seq (SW.condS (by cbv <;> rfl) (fun h => SW.skip ?_) (fun h => ?_))
      · have hlt : 0 < d.nw := by subst hO; simpa [std] using h
        refine SW.seq (SW.block ?_)
        refine SW.seqRun tok hO (by cbv <;> rfl) (by trivial) ?_
        refine SW.seqRun tok hO (by cbv <;> rfl) (by trivial) ?_
        refine OpsW.callP (hpile hlt) (by cbv <;> rfl) ?_
        refine OpsW.run tok hO (by cbv <;> rfl) (by trivial) ?_
        refine SW.seqRunD tok mixed hO (by rfl) (by cbv <;> rfl) (by trivial) ?_
        refine AnyE.callP (hb hlt) (by cbv <;> rfl) (by cbv <;> rfl) ?_
        refine AnyE.run tok hO (by rfl) (by cbv <;> rfl) (by trivial) ?_
        refine AnyE.effK tok hO (by cbv <;> rfl) (by cbv <;> rfl) (by trivial) ?_ ?_
        · exact ⟨by cbv <;> rfl, by cbv <;> rfl, trivial⟩
        refine AnyE.appNil tok (by cbv <;> rfl) (by cbv <;> rfl) (by rfl) (by kernel_rfl) (by rfl) (by rfl) ?_
        refine AnyE.run tok hO (by rfl) (by cbv <;> rfl) (by trivial) ?_
        refine AnyE.eff tok hO (by cbv <;> rfl) (by cbv <;> rfl) (by trivial) ?_
        refine AnyE.done (by rfl) ?_
        refine SW.seqRunD tok mixed hO (by rfl) (by cbv <;> rfl) (by trivial) ?_
        refine AnyE.callP (hlf hlt) (by cbv <;> rfl) (by cbv <;> rfl) ?_
        refine AnyE.run tok hO (by rfl) (by cbv <;> rfl) (by trivial) ?_
        refine AnyE.effK tok hO (by cbv <;> rfl) (by cbv <;> rfl) (by trivial) ?_ ?_
        · exact ⟨by cbv <;> rfl, by cbv <;> rfl, trivial⟩
        refine AnyE.appNil tok (by cbv <;> rfl) (by cbv <;> rfl) (by rfl) (by kernel_rfl) (by rfl) (by rfl) ?_
        refine AnyE.run tok hO (by rfl) (by cbv <;> rfl) (by trivial) ?_
        refine AnyE.eff tok hO (by cbv <;> rfl) (by cbv <;> rfl) (by trivial) ?_
        refine AnyE.done (by rfl) ?_
        refine SW.run tok hO (by cbv <;> rfl) (by trivial) ?_
        refine OpsW.callP (hb hlt) (by cbv <;> rfl) ?_
        refine OpsW.run tok hO (by cbv <;> rfl) (by trivial) ?_
        refine SW.run tok hO (by cbv <;> rfl) (by trivial) ?_
        refine ⟨1, by omega, by omega, ren2 4 8 5 10, ?_⟩
        refine WeakR.up2 (fun _ => none) (fun _ _ _ h => by cases h) rfl rfl (by simp) (by show 4 ≤ 4; omega) (by show 4 ≤ 5; omega) (inj_of (by rfl)) (by show 4 ≤ 6; omega) ⟨RenV.ptr (by omega), RenV.ptr (by omega), RenV.ptr (by omega), RenV.ptr (by omega), ?_, RenV.closed Below.lit, RenV.inc hO (by omega), trivial⟩
          ⟨⟨by omega, _, rfl, .cells (RenVs.of_eq (by subst hO; rfl) (flatG_below (intC_below _) 1)), rfl⟩, ⟨by omega, _, rfl, .cells (RenVs.of_eq (by subst hO; rfl) (flatG_below (intC_below _) 1)), rfl⟩,
           ⟨by omega, _, rfl, .cells (.cons (RenV.sl (by omega)) (.cons (RenV.sl (by omega)) (RenVs.closed (AllB.ok ⟨Below.lit, Below.lit, Below.lit, Below.lit, trivial⟩)))), rfl⟩, ⟨by omega, _, rfl, .cells (RenVs.closed tal0_below), rfl⟩, ⟨by omega, _, rfl, .cells (RenVs.closed (truC_below t)), rfl⟩, ⟨by omega, _, rfl, .cells (RenVs.closed (dayC_below d)), rfl⟩, trivial⟩
        show RenV _ _ (iV (sumN BU 1)) (.lit (.int .i64 (O.bin .add .i64 acc (BU 0))))
        rw [hsum _ rfl]
        exact RenV.closed Below.lit
      · have hz : d.nw = 0 := by
          have : d.nw ≤ 0 := by subst hO; simpa [std] using h
          omega
        refine SW.exit ⟨rfl, _, nl3, nl3, rfl, rfl, rfl, rfl, ?_, ?_, ?_, .inl rfl, .inl rfl, rfl⟩
        · rw [hz, ← hacc]; rfl
        · rw [hz]; exact Eqv.nil
        · rw [hz]; exact Eqv.nil
    | succ i =>
      obtain ⟨GA, hGA⟩ : ∃ G, G = flatG 1 (intC BU) (i + 1) := ⟨_, rfl⟩
      obtain ⟨GB, hGB⟩ : ∃ G, G = flatG 1 (intC LE) (i + 1) := ⟨_, rfl⟩
      have hobj : objs2 BU LE (i + 1) = [(4, .cells none false GA), (5, .cells none false GB)] := by rw [hGA, hGB]; rfl
      show SW _ _ _ _ _ (talS d t (.sl 4 0 (i + 1) 1 false) (.sl 5 0 (i + 1) 1 false) (objs2 BU LE (i + 1)))
      rw [hobj]
      refine SW.seqRun tok hO (by cbv <;> rfl) (by trivial) ?_
      refine SW.seq (SW.condS (by cbv <;> rfl) (fun h => SW.skip ?_) (fun h => ?_))
      · have hlt : i + 1 < d.nw := by
          have : ((i + 1 : Nat) : Int) < (d.nw : Int) := by subst hO; simpa [std] using h
          omega
        refine SW.seq (SW.block ?_)
        refine SW.seqRun tok hO (by cbv <;> rfl) (by trivial) ?_
        refine SW.seqRun tok hO (by cbv <;> rfl) (by trivial) ?_
        refine OpsW.callP (hpile hlt) (by cbv <;> rfl) ?_
        refine OpsW.run tok hO (by cbv <;> rfl) (by trivial) ?_
        refine SW.seqRunD tok mixed hO (by rfl) (by cbv <;> rfl) (by trivial) ?_
        refine AnyE.callP (hb hlt) (by cbv <;> rfl) (by cbv <;> rfl) ?_
        refine AnyE.run tok hO (by rfl) (by cbv <;> rfl) (by trivial) ?_
        refine AnyE.effK tok hO (by cbv <;> rfl) (by cbv <;> rfl) (by trivial) ?_ ?_
        · exact ⟨by cbv <;> rfl, by cbv <;> rfl, trivial⟩
        refine AnyE.appOne (g := intC BU) tok (by cbv <;> rfl) (by cbv <;> rfl) (by rfl) (by rfl) hGA (by kernel_rfl) (by rfl) (by rfl) (by omega) fun GA' hGA' => ?_
        refine AnyE.run tok hO (by rfl) (by cbv <;> rfl) (by trivial) ?_
        refine AnyE.eff tok hO (by cbv <;> rfl) (by cbv <;> rfl) (by trivial) ?_
        refine AnyE.done (by rfl) ?_
        refine SW.seqRunD tok mixed hO (by rfl) (by cbv <;> rfl) (by trivial) ?_
        refine AnyE.callP (hlf hlt) (by cbv <;> rfl) (by cbv <;> rfl) ?_
        refine AnyE.run tok hO (by rfl) (by cbv <;> rfl) (by trivial) ?_
        refine AnyE.effK tok hO (by cbv <;> rfl) (by cbv <;> rfl) (by trivial) ?_ ?_
        · exact ⟨by cbv <;> rfl, by cbv <;> rfl, trivial⟩
        refine AnyE.appOne (g := intC LE) tok (by cbv <;> rfl) (by cbv <;> rfl) (by rfl) (by rfl) hGB (by kernel_rfl) (by rfl) (by rfl) (by omega) fun GB' hGB' => ?_
        refine AnyE.run tok hO (by rfl) (by cbv <;> rfl) (by trivial) ?_
        refine AnyE.eff tok hO (by cbv <;> rfl) (by cbv <;> rfl) (by trivial) ?_
        refine AnyE.done (by rfl) ?_
        refine SW.run tok hO (by cbv <;> rfl) (by trivial) ?_
        refine OpsW.callP (hb hlt) (by cbv <;> rfl) ?_
        refine OpsW.run tok hO (by cbv <;> rfl) (by trivial) ?_
        refine SW.run tok hO (by cbv <;> rfl) (by trivial) ?_
        refine ⟨i + 1 + 1, by omega, by omega, ren2 4 8 5 10, ?_⟩
        refine WeakR.up2 (fam2 4 5) (fam2_inj 4 5) rfl rfl (by simp) (by show 4 ≤ 4; omega) (by show 4 ≤ 5; omega) (inj_of (by rfl)) (by show 4 ≤ 6; omega) ⟨RenV.ptr (by omega), RenV.ptr (by omega), RenV.ptr (by omega), RenV.ptr (by omega), ?_, RenV.closed Below.lit, RenV.inc hO (by omega), trivial⟩
          ⟨⟨by omega, _, rfl, .cells (RenVs.of_eq (hGA'.trans (flatG_snoc BU (i + 1) _ rfl)) (flatG_below (intC_below _) _)), rfl⟩, ⟨by omega, _, rfl, .cells (RenVs.of_eq (hGB'.trans (flatG_snoc LE (i + 1) _ rfl)) (flatG_below (intC_below _) _)), rfl⟩,
           ⟨by omega, _, rfl, .cells (.cons (RenV.sl (by omega)) (.cons (RenV.sl (by omega)) (RenVs.closed (AllB.ok ⟨Below.lit, Below.lit, Below.lit, Below.lit, trivial⟩)))), rfl⟩, ⟨by omega, _, rfl, .cells (RenVs.closed tal0_below), rfl⟩, ⟨by omega, _, rfl, .cells (RenVs.closed (truC_below t)), rfl⟩, ⟨by omega, _, rfl, .cells (RenVs.closed (dayC_below d)), rfl⟩, trivial⟩
        show RenV _ _ (iV (sumN BU (i + 1 + 1))) (.lit (.int .i64 (O.bin .add .i64 acc (BU (i + 1)))))
        rw [hsum _ rfl]
        exact RenV.closed Below.lit
      · have hz : d.nw = i + 1 := by
          have : (d.nw : Int) ≤ ((i + 1 : Nat) : Int) := by subst hO; simpa [std] using h
          omega
        have hlA : (i + 1) * 1 ≤ GA.length := by rw [hGA, flatG_length]; omega
        have hlB : (i + 1) * 1 ≤ GB.length := by rw [hGB, flatG_length]; omega
        refine SW.freezeZ (fun j => Nat.beq j 4 || Nat.beq j 5) 3 (by rfl) (SW.exit ⟨rfl, _, _, _, rfl, rfl, rfl, rfl, ?_, ?_, ?_, ?_, ?_, rfl⟩)
        · rw [hz, ← hacc]; rfl
        · show Eqv (frz _ _ 3 (.sl 4 0 (i + 1) 1 false)) _
          rw [hz, frz_slE (fm := none) (G := GA) rfl rfl hlA, hGA]
          exact Eqv.isl rfl fun i' k hi' hk => Eqv.of (frz_flat hi' hk rfl)
        · show Eqv (frz _ _ 3 (.sl 5 0 (i + 1) 1 false)) _
          rw [hz, frz_slE (fm := none) (G := GB) rfl rfl hlB, hGB]
          exact Eqv.isl rfl fun i' k hi' hk => Eqv.of (frz_flat hi' hk rfl)
        · exact .inr ⟨_, _, _, frz_slE (fm := none) (G := GA) rfl rfl hlA⟩
        · exact .inr ⟨_, _, _, frz_slE (fm := none) (G := GB) rfl rfl hlB⟩
  · rintro e fm st ⟨rfl, g, A, B, rfl, g2, g4, g5, g6, hA, hB', fA, fB, rfl⟩
    have hall : d.all t = sumN BU d.nw := by rw [hBU]; rfl
    have hres : ∀ x y z u : Int, x = quo64 (sumN BU d.nw) d.hand → y = (sumN BU d.nw).tmod d.hand → z = quo64 (quo64 (sumN BU d.nw) d.hand) d.flat → u = (quo64 (sumN BU d.nw) d.hand).tmod d.flat → Eqv (.agg [A, B, iV x, iV y, iV z, iV u]) (talV (d.tally t)) := fun x y z u hx hy hz hu => by
      subst hx; subst hy; subst hz; subst hu
      unfold talV talC DayD.tally
      rw [hall, ← hBU, ← hLE]
      exact Eqv.agg (.cons hA (.cons hB' (.cons (Eqv.refl _) (.cons (Eqv.refl _) (.cons (Eqv.refl _) (.cons (Eqv.refl _) .nil))))))
    generalize sumN BU d.nw = al at g6 hres
    rw [← updT_self g2, ← updT_self g4, ← updT_self g5, ← updT_self g6]
    rcases fA with rfl | ⟨la, sa, ha, rfl⟩ <;> rcases fB with rfl | ⟨lb, sb, hb2, rfl⟩
    all_goals
      refine SW.seqRunD tok mixed hO (by rfl) (by cbv <;> rfl) ?_ ?_
      · first | exact hh | exact ⟨hh, hh⟩
      refine AnyE.effK tok hO (by cbv <;> rfl) (by cbv <;> rfl) (by trivial) ?_ ?_
      · exact ⟨by refine lv_of hO (by cbv <;> rfl) ?_; exact hh, by cbv <;> rfl, by cbv <;> rfl, by cbv <;> rfl, trivial⟩
      refine AnyE.run tok hO (by rfl) (by cbv <;> rfl) (by trivial) ?_
      refine AnyE.eff tok hO (by cbv <;> rfl) (by cbv <;> rfl) (by trivial) ?_
      refine AnyE.done (by rfl) ?_
      refine SW.seqRunD tok mixed hO (by rfl) (by cbv <;> rfl) ?_ ?_
      · first | exact hfl | exact ⟨hfl, hfl⟩
      refine AnyE.effK tok hO (by cbv <;> rfl) (by cbv <;> rfl) (by trivial) ?_ ?_
      · exact ⟨by refine lv_of hO (by cbv <;> rfl) ?_; exact hfl, by cbv <;> rfl, by cbv <;> rfl, trivial⟩
      refine AnyE.run tok hO (by rfl) (by cbv <;> rfl) (by trivial) ?_
      refine AnyE.eff tok hO (by cbv <;> rfl) (by cbv <;> rfl) (by trivial) ?_
      refine AnyE.done (by rfl) ?_
      refine SW.seqRun tok hO (by cbv <;> rfl) (by trivial) ?_
      refine SW.ret ⟨_, _, rfl, rfl, ?_⟩
      exact hres _ _ _ _ (by subst hO; rfl) (by subst hO; rfl) (by subst hO; rfl) (by subst hO; rfl)
end Go.Fz
namespace Go.Fz
open Go.Proofs
set_option maxRecDepth 100000
theorem m98_ok (y : TalD) (w : Nat) (hw : w < y.n) : Pure Try.prog 129 [talV y, iV w] (iV (y.bun w)) := by
  obtain ⟨O, hO⟩ : ∃ O : Ar, O = std := ⟨_, rfl⟩
  have hw0 : (0 : Int) ≤ Int.ofNat w := Int.natCast_nonneg w
  refine pure_of_body tok 3 Try.func129 en129 rfl ⟨talV_below y, Below.lit, trivial⟩ Below.lit ?_
  refine SW.seqRun tok hO (by cbv <;> rfl) (by trivial) ?_
  refine SW.seqRun tok hO (by cbv <;> rfl) ?_ ?_
  · exact ⟨hw0, Int.ofNat_lt.2 hw⟩
  exact SW.ret ⟨_, _, rfl, rfl, Eqv.int (by subst hO; rfl)⟩
theorem m99_ok (y : TalD) (w : Nat) (hw : w < y.n) : Pure Try.prog 130 [talV y, iV w] (iV (y.lef w)) := by
  obtain ⟨O, hO⟩ : ∃ O : Ar, O = std := ⟨_, rfl⟩
  have hw0 : (0 : Int) ≤ Int.ofNat w := Int.natCast_nonneg w
  refine pure_of_body tok 3 Try.func130 en130 rfl ⟨talV_below y, Below.lit, trivial⟩ Below.lit ?_
  refine SW.seqRun tok hO (by cbv <;> rfl) (by trivial) ?_
  refine SW.seqRun tok hO (by cbv <;> rfl) ?_ ?_
  · exact ⟨hw0, Int.ofNat_lt.2 hw⟩
  exact SW.ret ⟨_, _, rfl, rfl, Eqv.int (by subst hO; rfl)⟩
theorem m100_ok (y : TalD) (w : Int) : Pure Try.prog 131 [talV y, iV w] (iV y.hands) := by
  obtain ⟨O, hO⟩ : ∃ O : Ar, O = std := ⟨_, rfl⟩
  refine pure_of_body tok 3 Try.func131 en131 rfl ⟨talV_below y, Below.lit, trivial⟩ Below.lit ?_
  refine SW.seqRun tok hO (by cbv <;> rfl) (by trivial) ?_
  refine SW.seqRun tok hO (by cbv <;> rfl) (by trivial) ?_
  exact SW.ret ⟨_, _, rfl, rfl, Eqv.refl _⟩
theorem m101_ok (y : TalD) (w : Int) : Pure Try.prog 132 [talV y, iV w] (iV y.loose) := by
  obtain ⟨O, hO⟩ : ∃ O : Ar, O = std := ⟨_, rfl⟩
  refine pure_of_body tok 3 Try.func132 en132 rfl ⟨talV_below y, Below.lit, trivial⟩ Below.lit ?_
  refine SW.seqRun tok hO (by cbv <;> rfl) (by trivial) ?_
  refine SW.seqRun tok hO (by cbv <;> rfl) (by trivial) ?_
  exact SW.ret ⟨_, _, rfl, rfl, Eqv.refl _⟩
theorem m102_ok (y : TalD) (w : Int) : Pure Try.prog 133 [talV y, iV w] (iV y.flats) := by
  obtain ⟨O, hO⟩ : ∃ O : Ar, O = std := ⟨_, rfl⟩
  refine pure_of_body tok 3 Try.func133 en133 rfl ⟨talV_below y, Below.lit, trivial⟩ Below.lit ?_
  refine SW.seqRun tok hO (by cbv <;> rfl) (by trivial) ?_
  refine SW.seqRun tok hO (by cbv <;> rfl) (by trivial) ?_
  exact SW.ret ⟨_, _, rfl, rfl, Eqv.refl _⟩
theorem m103_ok (y : TalD) (w : Int) : Pure Try.prog 134 [talV y, iV w] (iV y.spare) := by
  obtain ⟨O, hO⟩ : ∃ O : Ar, O = std := ⟨_, rfl⟩
  refine pure_of_body tok 3 Try.func134 en134 rfl ⟨talV_below y, Below.lit, trivial⟩ Below.lit ?_
  refine SW.seqRun tok hO (by cbv <;> rfl) (by trivial) ?_
  refine SW.seqRun tok hO (by cbv <;> rfl) (by trivial) ?_
  exact SW.ret ⟨_, _, rfl, rfl, Eqv.refl _⟩
theorem right0_ok (y : TalD) (w : Nat) (hw : w < y.n) (lo hi : Int) : Pure Try.prog 113 [.agg [iV 0, iV w, iV lo, iV hi], talV y] (.sb (inB (y.bun w) lo hi)) := by
  obtain ⟨O, hO⟩ : ∃ O : Ar, O = std := ⟨_, rfl⟩
  refine pure_of_body tok 3 Try.func113 en113 rfl ⟨Below.agg (AllB.ok ⟨Below.lit, Below.lit, Below.lit, Below.lit, trivial⟩), talV_below y, trivial⟩ Below.sb ?_
  refine SW.seqRun tok hO (by cbv <;> rfl) (by trivial) ?_
  refine SW.seqRunD tok mixed hO (by rfl) (by cbv <;> rfl) (by trivial) ?_
  refine AnyE.callP (kind0_ok w lo hi) (by cbv <;> rfl) (by cbv <;> rfl) ?_
  refine AnyE.run tok hO (by rfl) (by cbv <;> rfl) (by trivial) ?_
  refine AnyE.callP (m98_ok y w hw) (by cbv <;> rfl) (by cbv <;> rfl) ?_
  refine AnyE.run tok hO (by rfl) (by cbv <;> rfl) (by trivial) ?_
  have hc := has_ok lo hi (y.bun w)
  generalize inB (y.bun w) lo hi = b at hc
  refine AnyE.callP hc (by cbv <;> rfl) (by cbv <;> rfl) ?_
  refine AnyE.run tok hO (by rfl) (by cbv <;> rfl) (by trivial) ?_
  exact SW.ret ⟨_, _, rfl, rfl, Eqv.refl _⟩
theorem right1_ok (y : TalD) (w : Nat) (hw : w < y.n) (lo hi : Int) : Pure Try.prog 113 [.agg [iV 1, iV w, iV lo, iV hi], talV y] (.sb (inB (y.lef w) lo hi)) := by
  obtain ⟨O, hO⟩ : ∃ O : Ar, O = std := ⟨_, rfl⟩
  refine pure_of_body tok 3 Try.func113 en113 rfl ⟨Below.agg (AllB.ok ⟨Below.lit, Below.lit, Below.lit, Below.lit, trivial⟩), talV_below y, trivial⟩ Below.sb ?_
  refine SW.seqRun tok hO (by cbv <;> rfl) (by trivial) ?_
  refine SW.seqRunD tok mixed hO (by rfl) (by cbv <;> rfl) (by trivial) ?_
  refine AnyE.callP (kind1_ok w lo hi) (by cbv <;> rfl) (by cbv <;> rfl) ?_
  refine AnyE.run tok hO (by rfl) (by cbv <;> rfl) (by trivial) ?_
  refine AnyE.callP (m99_ok y w hw) (by cbv <;> rfl) (by cbv <;> rfl) ?_
  refine AnyE.run tok hO (by rfl) (by cbv <;> rfl) (by trivial) ?_
  have hc := has_ok lo hi (y.lef w)
  generalize inB (y.lef w) lo hi = b at hc
  refine AnyE.callP hc (by cbv <;> rfl) (by cbv <;> rfl) ?_
  refine AnyE.run tok hO (by rfl) (by cbv <;> rfl) (by trivial) ?_
  exact SW.ret ⟨_, _, rfl, rfl, Eqv.refl _⟩
theorem right2_ok (y : TalD) (w : Int) (lo hi : Int) : Pure Try.prog 113 [.agg [iV 2, iV w, iV lo, iV hi], talV y] (.sb (inB (y.hands) lo hi)) := by
  obtain ⟨O, hO⟩ : ∃ O : Ar, O = std := ⟨_, rfl⟩
  refine pure_of_body tok 3 Try.func113 en113 rfl ⟨Below.agg (AllB.ok ⟨Below.lit, Below.lit, Below.lit, Below.lit, trivial⟩), talV_below y, trivial⟩ Below.sb ?_
  refine SW.seqRun tok hO (by cbv <;> rfl) (by trivial) ?_
  refine SW.seqRunD tok mixed hO (by rfl) (by cbv <;> rfl) (by trivial) ?_
  refine AnyE.callP (kind2_ok w lo hi) (by cbv <;> rfl) (by cbv <;> rfl) ?_
  refine AnyE.run tok hO (by rfl) (by cbv <;> rfl) (by trivial) ?_
  refine AnyE.callP (m100_ok y w) (by cbv <;> rfl) (by cbv <;> rfl) ?_
  refine AnyE.run tok hO (by rfl) (by cbv <;> rfl) (by trivial) ?_
  have hc := has_ok lo hi (y.hands)
  generalize inB (y.hands) lo hi = b at hc
  refine AnyE.callP hc (by cbv <;> rfl) (by cbv <;> rfl) ?_
  refine AnyE.run tok hO (by rfl) (by cbv <;> rfl) (by trivial) ?_
  exact SW.ret ⟨_, _, rfl, rfl, Eqv.refl _⟩
theorem right3_ok (y : TalD) (w : Int) (lo hi : Int) : Pure Try.prog 113 [.agg [iV 3, iV w, iV lo, iV hi], talV y] (.sb (inB (y.loose) lo hi)) := by
  obtain ⟨O, hO⟩ : ∃ O : Ar, O = std := ⟨_, rfl⟩
  refine pure_of_body tok 3 Try.func113 en113 rfl ⟨Below.agg (AllB.ok ⟨Below.lit, Below.lit, Below.lit, Below.lit, trivial⟩), talV_below y, trivial⟩ Below.sb ?_
  refine SW.seqRun tok hO (by cbv <;> rfl) (by trivial) ?_
  refine SW.seqRunD tok mixed hO (by rfl) (by cbv <;> rfl) (by trivial) ?_
  refine AnyE.callP (kind3_ok w lo hi) (by cbv <;> rfl) (by cbv <;> rfl) ?_
  refine AnyE.run tok hO (by rfl) (by cbv <;> rfl) (by trivial) ?_
  refine AnyE.callP (m101_ok y w) (by cbv <;> rfl) (by cbv <;> rfl) ?_
  refine AnyE.run tok hO (by rfl) (by cbv <;> rfl) (by trivial) ?_
  have hc := has_ok lo hi (y.loose)
  generalize inB (y.loose) lo hi = b at hc
  refine AnyE.callP hc (by cbv <;> rfl) (by cbv <;> rfl) ?_
  refine AnyE.run tok hO (by rfl) (by cbv <;> rfl) (by trivial) ?_
  exact SW.ret ⟨_, _, rfl, rfl, Eqv.refl _⟩
theorem right4_ok (y : TalD) (w : Int) (lo hi : Int) : Pure Try.prog 113 [.agg [iV 4, iV w, iV lo, iV hi], talV y] (.sb (inB (y.flats) lo hi)) := by
  obtain ⟨O, hO⟩ : ∃ O : Ar, O = std := ⟨_, rfl⟩
  refine pure_of_body tok 3 Try.func113 en113 rfl ⟨Below.agg (AllB.ok ⟨Below.lit, Below.lit, Below.lit, Below.lit, trivial⟩), talV_below y, trivial⟩ Below.sb ?_
  refine SW.seqRun tok hO (by cbv <;> rfl) (by trivial) ?_
  refine SW.seqRunD tok mixed hO (by rfl) (by cbv <;> rfl) (by trivial) ?_
  refine AnyE.callP (kind4_ok w lo hi) (by cbv <;> rfl) (by cbv <;> rfl) ?_
  refine AnyE.run tok hO (by rfl) (by cbv <;> rfl) (by trivial) ?_
  refine AnyE.callP (m102_ok y w) (by cbv <;> rfl) (by cbv <;> rfl) ?_
  refine AnyE.run tok hO (by rfl) (by cbv <;> rfl) (by trivial) ?_
  have hc := has_ok lo hi (y.flats)
  generalize inB (y.flats) lo hi = b at hc
  refine AnyE.callP hc (by cbv <;> rfl) (by cbv <;> rfl) ?_
  refine AnyE.run tok hO (by rfl) (by cbv <;> rfl) (by trivial) ?_
  exact SW.ret ⟨_, _, rfl, rfl, Eqv.refl _⟩
theorem right5_ok (y : TalD) (w : Int) (lo hi : Int) : Pure Try.prog 113 [.agg [iV 5, iV w, iV lo, iV hi], talV y] (.sb (inB (y.spare) lo hi)) := by
  obtain ⟨O, hO⟩ : ∃ O : Ar, O = std := ⟨_, rfl⟩
  refine pure_of_body tok 3 Try.func113 en113 rfl ⟨Below.agg (AllB.ok ⟨Below.lit, Below.lit, Below.lit, Below.lit, trivial⟩), talV_below y, trivial⟩ Below.sb ?_
  refine SW.seqRun tok hO (by cbv <;> rfl) (by trivial) ?_
  refine SW.seqRunD tok mixed hO (by rfl) (by cbv <;> rfl) (by trivial) ?_
  refine AnyE.callP (kind5_ok w lo hi) (by cbv <;> rfl) (by cbv <;> rfl) ?_
  refine AnyE.run tok hO (by rfl) (by cbv <;> rfl) (by trivial) ?_
  refine AnyE.callP (m103_ok y w) (by cbv <;> rfl) (by cbv <;> rfl) ?_
  refine AnyE.run tok hO (by rfl) (by cbv <;> rfl) (by trivial) ?_
  have hc := has_ok lo hi (y.spare)
  generalize inB (y.spare) lo hi = b at hc
  refine AnyE.callP hc (by cbv <;> rfl) (by cbv <;> rfl) ?_
  refine AnyE.run tok hO (by rfl) (by cbv <;> rfl) (by trivial) ?_
  exact SW.ret ⟨_, _, rfl, rfl, Eqv.refl _⟩
def TalD.cnt (y : TalD) (k w : Int) : Int := if k = 0 then y.bun w.toNat else if k = 1 then y.lef w.toNat else if k = 2 then y.hands else if k = 3 then y.loose else if k = 4 then y.flats else y.spare
def DayD.rightB (d : DayD) (y : TalD) (i : Nat) : Bool := inB (y.cnt (d.ck i) (d.cw i)) (d.clo i) (d.chi i)
theorem right_ok (d : DayD) (y : TalD) (i : Nat) (h0 : 0 ≤ d.ck i) (h6 : d.ck i < 6) (hw0 : 0 ≤ d.cw i) (hw : d.cw i < y.n) : Pure Try.prog 113 [cntV d i, talV y] (.sb (d.rightB y i)) := by
  have hc : d.ck i = 0 ∨ d.ck i = 1 ∨ d.ck i = 2 ∨ d.ck i = 3 ∨ d.ck i = 4 ∨ d.ck i = 5 := by omega
  obtain ⟨w, hwn⟩ := Int.eq_ofNat_of_zero_le hw0
  unfold cntV DayD.rightB
  rcases hc with h | h | h | h | h | h <;> rw [h]
  · rw [hwn]; exact right0_ok y w (by omega) _ _
  · rw [hwn]; exact right1_ok y w (by omega) _ _
  · exact right2_ok y _ _ _
  · exact right3_ok y _ _ _
  · exact right4_ok y _ _ _
  · exact right5_ok y _ _ _
def cells5B (M : Nat → Bool) : List AV := [.sb (M 0), .sb (M 1), .sb (M 2), .sb (M 3), .sb (M 4)]
theorem cells5B_below (n : Nat) (M : Nat → Bool) : ∀ a ∈ cells5B M, Below n a := AllB.ok ⟨Below.sb, Below.sb, Below.sb, Below.sb, Below.sb, trivial⟩
def wrM (r : Nat → Bool) (i j : Nat) : Bool := decide (j < i) && !(r j)
theorem wrongIn_ok (d : DayD) (y : TalD) (hn : d.nc ≤ 5) (hok : ∀ i, i < d.nc → 0 ≤ d.ck i ∧ d.ck i < 6 ∧ 0 ≤ d.cw i ∧ d.cw i < y.n) : Pure Try.prog 83 [dayV d, talV y] (.agg (cells5B (wrM (d.rightB y) d.nc))) := by
  obtain ⟨O, hO⟩ : ∃ O : Ar, O = std := ⟨_, rfl⟩
  have hnat : ∀ i : Nat, O.nat (Int.ofNat i) = i := fun i => by subst hO; rfl
  have hr := fun i (h : i < d.nc) => right_ok d y i (hok i h).1 (hok i h).2.1 (hok i h).2.2.1 (hok i h).2.2.2
  generalize d.rightB y = R at hr
  refine pure_of_body tok 3 Try.func83 en83 rfl ⟨dayV_below d, talV_below y, trivial⟩ (Below.agg (cells5B_below 0 _)) ?_
  refine SW.seqRun tok hO (by cbv <;> rfl) (by trivial) ?_
  refine SW.seqRun tok hO (by cbv <;> rfl) (by trivial) ?_
  refine SW.seq ?_
  refine SW.seqRun tok hO (by cbv <;> rfl) (by trivial) ?_
  refine (SW.block (SW.loopF (fun i : Nat => ⟨⟨24, getT [(3, .ptr 1 0), (4, .ptr 2 0), (5, .ptr 3 0), (9, cntsV d), (10, iV d.nc), (11, iV i)]⟩, []⟩)
    (fun i => ⟨[(3, .cells none false (cells5B (wrM R i))), (2, .cells none false (cells5B fun _ => false)), (1, .cells none false (talC y))], 4⟩) (fun i => d.nc - i) (fun i => i ≤ d.nc) 0
    (fun _ => rfl) (Nat.zero_le _) (Weak.by rfl rfl (by simp) (Nat.le_refl _) (Nat.le_refl _) ⟨⟨rfl, .inl rfl⟩, ⟨rfl, .inl rfl⟩, ⟨rfl, .inl rfl⟩, ⟨rfl, .inl rfl⟩, ⟨rfl, .inl rfl⟩, ⟨rfl, .inl rfl⟩, trivial⟩ ⟨⟨rfl, by omega, .inl rfl⟩, ⟨rfl, by omega, .inl rfl⟩, ⟨rfl, by omega, .inl rfl⟩, trivial⟩) fun i hi => ?_))
  generalize hM : wrM R i = M
  refine SW.seqRun tok hO (by cbv <;> rfl) (by trivial) ?_
  refine SW.seq (SW.condS (by cbv <;> rfl) (fun h => SW.skip ?_) (fun h => SW.exit ?_))
  · have hlt : i < d.nc := by subst hO; simpa [std] using h
    have hi0 : (0 : Int) ≤ Int.ofNat i := Int.natCast_nonneg i
    refine SW.seq (SW.block ?_)
    refine SW.seqRun tok hO (by cbv <;> rfl) ?_ ?_
    · exact ⟨hi0, Int.ofNat_lt.2 hlt⟩
    refine SW.run tok hO (by cbv <;> rfl) (by trivial) ?_
    have hri := hr i hlt
    rw [← hnat i] at hri
    unfold cntV at hri
    refine OpsW.callP hri (by cbv <;> rfl) ?_
    rw [hnat i]
    generalize hb : R i = b
    refine OpsW.run tok hO (by cbv <;> rfl) ?_ ?_
    · exact ⟨by show O.nat (Int.ofNat i) < 5; rw [hnat]; omega, hi0, Int.ofNat_lt.2 (show i < 5 by omega)⟩
    refine SW.run tok hO (by cbv <;> rfl) (by trivial) ?_
    have hk : ∀ j, O.upsB j (O.nat (Int.ofNat i)) (O.not b) (M j) = wrM R (i + 1) j := fun j => by
      rw [hnat, ← hM, ← hb]; subst hO
      simp only [std, wrM]
      by_cases e : i = j
      · subst e; simp
      · rw [if_neg e]
        by_cases e2 : j < i
        · simp [e2, show j < i + 1 by omega]
        · simp [e2, show ¬ j < i + 1 by omega]
    refine ⟨i + 1, by omega, by omega, Weak.by rfl rfl (by simp) (Nat.le_refl _) (by show 4 ≤ 5; omega) ⟨⟨rfl, .inr (Below.ptr (by omega))⟩, ⟨rfl, .inr (Below.ptr (by omega))⟩, ⟨rfl, .inr (Below.ptr (by omega))⟩, ⟨rfl, .inr (Below.up (m := 0) (cntsV_below d))⟩, ⟨rfl, .inr Below.lit⟩, ⟨inc_ok hO (by omega), .inr Below.lit⟩, trivial⟩
      ⟨⟨congrArg (fun l => some (AObj.cells none false l)) ?_, by omega, .inr ⟨cells5B_below 4 _, fun _ h => by cases h⟩⟩, ⟨rfl, by omega, .inr ⟨cells5B_below 4 _, fun _ h => by cases h⟩⟩, ⟨rfl, by omega, .inr ⟨fun a ha => Below.up (m := 0) (talC_below y a ha), fun _ h => by cases h⟩⟩, trivial⟩⟩
    simp only [cells5B, ← hk]
  · refine SW.seqRun tok hO (by cbv <;> rfl) (by trivial) ?_
    have hge : d.nc ≤ i := by subst hO; simpa [std] using h
    have : i = d.nc := by omega
    subst hM
    rw [← this]
    refine SW.ret ⟨_, _, rfl, rfl, Eqv.of rfl⟩
end Go.Fz
namespace Go.Fz
open Go.Proofs
set_option maxRecDepth 100000
structure DayD.Good (d : DayD) : Prop where
  nw : d.nw ≤ 4
  nl : d.nl ≤ 4
  nc : d.nc ≤ 5
  pos : 0 < d.nw
  hand : 1 ≤ d.hand ∧ d.hand ≤ 20
  flat : 1 ≤ d.flat ∧ d.flat ≤ 20
  wom : ∀ i, i < d.nw → 1 ≤ d.wlo i ∧ d.wlo i ≤ d.whi i ∧ d.whi i ≤ 60
  lot : ∀ i, i < d.nl → (0 ≤ d.lw i ∧ d.lw i < d.nw) ∧ 0 ≤ d.llo i ∧ d.llo i ≤ d.lhi i ∧ d.lhi i ≤ 5000
  cnt : ∀ i, i < d.nc → (0 ≤ d.ck i ∧ d.ck i < 6) ∧ (0 ≤ d.cw i ∧ d.cw i < d.nw) ∧ (d.cw i = 0 ∨ d.ck i < 2) ∧ 0 ≤ d.clo i ∧ d.clo i ≤ d.chi i ∧ d.chi i ≤ 20000
theorem good_of_valid {d : DayD} (h1 : d.long = false) (h2 : d.validB = true) : d.Good := by
  simp only [DayD.long, Bool.or_eq_false_iff, decide_eq_false_iff_not, Nat.not_lt] at h1
  simp only [DayD.validB, bet, Bool.and_eq_true, decide_eq_true_eq, allN] at h2
  obtain ⟨⟨⟨⟨⟨h3, h4⟩, h5⟩, h6⟩, h7⟩, h8⟩ := h2
  refine ⟨h1.1.1, h1.1.2, h1.2, h5, h3, h4, fun i hi => ?_, fun i hi => ?_, fun i hi => ?_⟩
  · have := h6 i hi
    simp only [withinB, Bool.and_eq_true, decide_eq_true_eq] at this
    omega
  · have := h7 i hi
    simp only [DayD.lotOk, withinB, DayD.hasW, Bool.and_eq_true, decide_eq_true_eq] at this
    omega
  · have := h8 i hi
    simp only [DayD.cntOk, withinB, DayD.hasW, Bool.and_eq_true, Bool.or_eq_true, decide_eq_true_eq] at this
    omega
theorem good_of_check {d : DayD} (h : d.check = 0) : d.Good := by
  unfold DayD.check at h
  split at h
  · omega
  · rename_i h1
    split at h
    · rename_i h2; exact good_of_valid (by simpa using h1) h2
    · omega
theorem fits_true {d : DayD} {t : TruD} (h : d.fits t = true) : t.nf = d.nw ∧ t.ns = d.nl ∧ (∀ i, i < d.nw → d.wlo i ≤ t.fe i ∧ t.fe i ≤ d.whi i) ∧ (∀ i, i < d.nl → d.llo i ≤ t.st i ∧ t.st i ≤ d.lhi i) := by
  simp only [DayD.fits, inB, Bool.and_eq_true, decide_eq_true_eq, allN] at h
  obtain ⟨⟨⟨h1, h2⟩, h3⟩, h4⟩ := h
  exact ⟨h1, h2, fun i hi => h3 i (by omega), fun i hi => h4 i (by omega)⟩
theorem tally_ok' {d : DayD} {t : TruD} (g : d.Good) (h : d.fits t = true) : Pure Try.prog 84 [dayV d, truV t] (talV (d.tally t)) := by
  obtain ⟨h1, h2, h3, h4⟩ := fits_true h
  exact tally_ok d t h1 h2 g.nw g.nl (fun w hw => by have := h3 w hw; have := g.wom w hw; omega) (by have := g.hand; omega) (by have := g.flat; omega)
def DayD.proveT (d : DayD) (t : TruD) : Bool := decide (d.check = 0) && d.fits t && allN d.nc (d.rightB (d.tally t))
theorem allN_wr (r : Nat → Bool) (n : Nat) (h : n ≤ 5) : allN n r = (!(wrM r n 0) && !(wrM r n 1) && !(wrM r n 2) && !(wrM r n 3) && !(wrM r n 4)) := by
  rw [Bool.eq_iff_iff]
  simp only [allN, wrM, decide_eq_true_eq, Bool.and_eq_true, Bool.not_and, Bool.not_not, Bool.or_eq_true, Bool.not_eq_true', decide_eq_false_iff_not]
  constructor
  · intro hq
    refine ⟨⟨⟨⟨?_, ?_⟩, ?_⟩, ?_⟩, ?_⟩
    · by_cases h0 : 0 < n; exact .inr (hq 0 h0); exact .inl h0
    · by_cases h0 : 1 < n; exact .inr (hq 1 h0); exact .inl h0
    · by_cases h0 : 2 < n; exact .inr (hq 2 h0); exact .inl h0
    · by_cases h0 : 3 < n; exact .inr (hq 3 h0); exact .inl h0
    · by_cases h0 : 4 < n; exact .inr (hq 4 h0); exact .inl h0
  · rintro ⟨⟨⟨⟨h0, h1⟩, h2⟩, h3⟩, h4⟩ i hi
    have : i = 0 ∨ i = 1 ∨ i = 2 ∨ i = 3 ∨ i = 4 := by omega
    rcases this with rfl | rfl | rfl | rfl | rfl
    · exact h0.resolve_left (by omega)
    · exact h1.resolve_left (by omega)
    · exact h2.resolve_left (by omega)
    · exact h3.resolve_left (by omega)
    · exact h4.resolve_left (by omega)
theorem proveTruth_ok (d : DayD) (hs : d.small) (t : TruD) (hf : t.nf < 1000) (hn : t.ns < 1000) : Pure Try.prog 38 [dayV d, truV t] (.sb (d.proveT t)) := by
  obtain ⟨O, hO⟩ : ∃ O : Ar, O = std := ⟨_, rfl⟩
  have e1 := checkDay_ok d hs
  have hg : d.check = 0 → d.Good := good_of_check
  have hpt : d.proveT t = (decide (d.check = 0) && d.fits t && allN d.nc (d.rightB (d.tally t))) := rfl
  have e2 := fits_ok d t hf hn
  have e3 := fun (g : d.Good) (h : d.fits t = true) => tally_ok' g h
  have e4 := fun (g : d.Good) => wrongIn_ok d (d.tally t) g.nc (fun i hi => ⟨(g.cnt i hi).1.1, (g.cnt i hi).1.2, (g.cnt i hi).2.1.1, (g.cnt i hi).2.1.2⟩)
  have hal := fun (g : d.Good) => allN_wr (d.rightB (d.tally t)) d.nc g.nc
  generalize d.check = C at e1 hg hpt
  generalize d.fits t = F at e2 e3 hpt
  generalize wrM (d.rightB (d.tally t)) d.nc = M at e4 hal
  generalize d.tally t = Y at e3 e4 hal hpt
  refine pure_of_body tok 3 Try.func38 en38 rfl ⟨dayV_below d, truV_below t, trivial⟩ Below.sb ?_
  refine SW.seqRun tok hO (by cbv <;> rfl) (by trivial) ?_
  refine SW.seqRunD tok mixed hO (by rfl) (by cbv <;> rfl) (by trivial) ?_
  refine AnyE.callP e1 (by cbv <;> rfl) (by cbv <;> rfl) ?_
  refine AnyE.run tok hO (by rfl) (by cbv <;> rfl) (by trivial) ?_
  refine AnyE.dec tok hO (by rfl) (by cbv <;> rfl) (by trivial) (fun h1 => ?_) (fun h1 => ?_)
  · have hc0 : C = 0 := by subst hO; simpa [std] using h1
    have g := hg hc0
    refine AnyE.run tok hO (by rfl) (by cbv <;> rfl) (by trivial) ?_
    refine AnyE.callD e2 (by cbv <;> rfl) (by cbv <;> rfl) (fun h2 => ?_) (fun h2 => ?_)
    · refine AnyE.run tok hO (by rfl) (by cbv <;> rfl) (by trivial) ?_
      refine AnyE.callP (e3 g h2) (by cbv <;> rfl) (by cbv <;> rfl) ?_
      refine AnyE.run tok hO (by rfl) (by cbv <;> rfl) (by trivial) ?_
      refine AnyE.callP (e4 g) (by cbv <;> rfl) (by cbv <;> rfl) ?_
      refine AnyE.run tok hO (by rfl) (by cbv <;> rfl) (by trivial) ?_
      refine AnyE.dec tok hO (by rfl) (by cbv <;> rfl) (by trivial) (fun h3 => ?_) (fun h3 => ?_)
      all_goals
        refine AnyE.run tok hO (by rfl) (by cbv <;> rfl) (by trivial) ?_
        refine SW.ret ⟨_, _, rfl, rfl, Eqv.bool ?_⟩
        subst hO; simp [std] at h3
        rw [hpt, h2, hal g, hc0]
        simp_all
    · refine AnyE.run tok hO (by rfl) (by cbv <;> rfl) (by trivial) ?_
      refine SW.ret ⟨_, _, rfl, rfl, Eqv.bool ?_⟩
      rw [hpt, h2]; simp
  · have hc0 : ¬ C = 0 := by subst hO; simpa [std] using h1
    refine AnyE.run tok hO (by rfl) (by cbv <;> rfl) (by trivial) ?_
    refine SW.ret ⟨_, _, rfl, rfl, Eqv.bool ?_⟩
    rw [hpt]; simp [hc0]
def DayD.playT (d : DayD) (t : TruD) : AV := if d.check = 0 ∧ d.fits t = true then talV (d.tally t) else .agg [nl3, nl3, iV 0, iV 0, iV 0, iV 0]
def DayD.playE (d : DayD) (t : TruD) : Int := if d.check = 0 then (if d.fits t then 0 else 2) else d.check
theorem tal00_below : Below 0 (.agg [nl3, nl3, iV 0, iV 0, iV 0, iV 0]) := Below.agg tal0_below
theorem play_ok (d : DayD) (hs : d.small) (t : TruD) (hf : t.nf < 1000) (hn : t.ns < 1000) : Pure Try.prog 39 [dayV d, truV t] (.tup [d.playT t, iV (d.playE t)]) := by
  obtain ⟨O, hO⟩ : ∃ O : Ar, O = std := ⟨_, rfl⟩
  have e1 := checkDay_ok d hs
  have hg : d.check = 0 → d.Good := good_of_check
  have hpt : d.playT t = if d.check = 0 ∧ d.fits t = true then talV (d.tally t) else .agg [nl3, nl3, iV 0, iV 0, iV 0, iV 0] := rfl
  have hpe : d.playE t = if d.check = 0 then (if d.fits t then 0 else 2) else d.check := rfl
  have e2 := fits_ok d t hf hn
  have e3 := fun (g : d.Good) (h : d.fits t = true) => tally_ok' g h
  rw [hpt, hpe]
  clear hpt hpe
  generalize d.check = C at e1 hg
  generalize d.fits t = F at e2 e3
  generalize d.tally t = Y at e3
  have hbel : Below 0 (if C = 0 ∧ F = true then talV Y else .agg [nl3, nl3, iV 0, iV 0, iV 0, iV 0]) := by split; exact talV_below Y; exact tal00_below
  refine pure_of_body tok 3 Try.func39 en39 rfl ⟨dayV_below d, truV_below t, trivial⟩ (Below.tup (AllB.ok ⟨hbel, Below.lit, trivial⟩)) ?_
  refine SW.seqRun tok hO (by cbv <;> rfl) (by trivial) ?_
  refine SW.seq ?_
  refine SW.seqRun tok hO (by cbv <;> rfl) (by trivial) ?_
  refine OpsW.callP e1 (by cbv <;> rfl) ?_
  refine OpsW.run tok hO (by cbv <;> rfl) (by trivial) ?_
  refine SW.seqRun tok hO (by cbv <;> rfl) (by trivial) ?_
  refine SW.condS (by cbv <;> rfl) (fun h1 => ?_) (fun h1 => SW.skip ?_)
  · have hc : ¬ C = 0 := by subst hO; simpa [std] using h1
    refine SW.seqRun tok hO (by cbv <;> rfl) (by trivial) ?_
    refine SW.ret ⟨_, _, rfl, rfl, ?_⟩
    rw [if_neg (fun h => hc h.1), if_neg hc]
    exact Eqv.of rfl
  have hc : C = 0 := by subst hO; simpa [std] using h1
  refine SW.seq ?_
  refine SW.seqRun tok hO (by cbv <;> rfl) (by trivial) ?_
  refine OpsW.callP e2 (by cbv <;> rfl) ?_
  have hnot : O.not F = !F := by subst hO; rfl
  refine OpsW.run tok hO (by cbv <;> rfl) (by trivial) ?_
  refine SW.condS (by cbv <;> rfl) (fun h2 => ?_) (fun h2 => SW.skip ?_)
  · have hF : F = false := by have := hnot.symm.trans h2; simpa using this
    refine SW.seqRun tok hO (by cbv <;> rfl) (by trivial) ?_
    refine SW.ret ⟨_, _, rfl, rfl, ?_⟩
    rw [if_neg (fun h => by rw [hF] at h; cases h.2), if_pos hc, hF]
    exact Eqv.of rfl
  have hF : F = true := by have := hnot.symm.trans h2; simpa using this
  refine SW.seqRun tok hO (by cbv <;> rfl) (by trivial) ?_
  refine OpsW.callP (e3 (hg hc) hF) (by cbv <;> rfl) ?_
  refine OpsW.run tok hO (by cbv <;> rfl) (by trivial) ?_
  refine SW.ret ⟨_, _, rfl, rfl, ?_⟩
  rw [if_pos ⟨hc, hF⟩, if_pos hc, hF]
  exact Eqv.of rfl
end Go.Fz
