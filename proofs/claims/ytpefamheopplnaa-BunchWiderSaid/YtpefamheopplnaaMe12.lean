/- Own work of the verifier of watercress: FzB6. -/
import Derived.Test.YtpefamheopplnaaMe11
set_option linter.unusedVariables false
set_option linter.unusedSimpArgs false
namespace Go.Fz
open Go.Proofs
set_option maxRecDepth 100000
def ren2 (r1 m1 r2 m2 : Nat) (j : Nat) : Nat := match Nat.beq j r1 with
  | true => m1
  | false => match Nat.beq j r2 with
    | true => m2
    | false => j
theorem WeakR.up2 {n0 r1 m1 r2 m2 : Nat} {f1 : Fm} {st1 : St} {l : List (Nat × AV)} {len : Nat} {dm : List Nat} {hl : Hp} {n2 : Nat} (F : Nat → Option Nat) (hF : ∀ i j f, F i = some f → F j = some f → i = j) (e1 : len = f1.ts.len) (e2 : dm = f1.dm) (e3 : ∀ id ∈ dm, id < n0) (hr1 : n0 ≤ r1) (hr2 : n0 ≤ r2)
    (hinj : ∀ p ∈ hl, ∀ q ∈ hl, ren2 r1 m1 r2 m2 p.1 = ren2 r1 m1 r2 m2 q.1 → p.1 = q.1) (lo : n0 ≤ n2)
    (get : AllP (fun p => RenV (ren2 r1 m1 r2 m2) n2 p.2 (f1.ts.get p.1)) l) (obj : AllP (fun p => p.1 < n2 ∧ ∃ o1, st1.h.get (ren2 r1 m1 r2 m2 p.1) = some o1 ∧ RenO (ren2 r1 m1 r2 m2) n2 p.2 o1 ∧ o1.fam = F p.1) hl) :
    WeakR n0 (ren2 r1 m1 r2 m2) f1 st1 ⟨⟨len, getT l⟩, dm⟩ ⟨hl, n2⟩ := by
  have ho := obj.ok
  refine ⟨e1, e2, e3, fun j hj => ?_, fun i => ?_, lo, fun id o h => ?_, fun i j oi oj hi hj hij pi pj h1 h2 => ⟨fun h => hij ?_, fun ⟨f, k1, k2⟩ => ?_⟩⟩
  · unfold ren2
    cases hb : Nat.beq j r1 with
    | true => have := Nat.eq_of_beq_eq_true hb; omega
    | false => cases hb2 : Nat.beq j r2 with
      | true => have := Nat.eq_of_beq_eq_true hb2; omega
      | false => rfl
  · show RenV _ n2 (getT l i) _
    have hg := get.ok
    clear get obj ho hinj
    induction l with
    | nil => exact RenV.any
    | cons p r ih =>
      obtain ⟨j, a⟩ := p
      simp only [getT]
      cases hb : Nat.beq j i with
      | true =>
        obtain rfl := Nat.eq_of_beq_eq_true hb
        exact hg _ List.mem_cons_self
      | false => exact ih fun q hq => hg q (List.mem_cons_of_mem _ hq)
  · obtain ⟨h3, o1, h4, h5, _⟩ := ho _ (Hp.mem_of_get h)
    exact ⟨h3, o1, h4, h5⟩
  · exact hinj _ (Hp.mem_of_get hi) _ (Hp.mem_of_get hj) h
  · obtain ⟨_, o1, h3, _, h4⟩ := ho _ (Hp.mem_of_get hi)
    obtain ⟨_, o2, h5, _, h6⟩ := ho _ (Hp.mem_of_get hj)
    rw [show ren2 r1 m1 r2 m2 (i, oi).1 = ren2 r1 m1 r2 m2 i from rfl, h1] at h3
    rw [show ren2 r1 m1 r2 m2 (j, oj).1 = ren2 r1 m1 r2 m2 j from rfl, h2] at h5
    cases h3; cases h5
    exact hij (hF i j f (h4.symm.trans k1) (h6.symm.trans k2))
theorem inj_of {l : Hp} {ρ : Nat → Nat} (h : (l.all fun p => l.all fun q => !(Nat.beq (ρ p.1) (ρ q.1)) || Nat.beq p.1 q.1) = true) : ∀ p ∈ l, ∀ q ∈ l, ρ p.1 = ρ q.1 → p.1 = q.1 := fun p hp q hq he => by
  have h1 := List.all_eq_true.1 (List.all_eq_true.1 h p hp) q hq
  rw [he, Nat.beq_refl] at h1
  exact Nat.eq_of_beq_eq_true (by simpa using h1)
def fam2 (a b : Nat) (i : Nat) : Option Nat := match Nat.beq i a with
  | true => some a
  | false => match Nat.beq i b with
    | true => some b
    | false => none
theorem fam2_inj (a b : Nat) : ∀ i j f, fam2 a b i = some f → fam2 a b j = some f → i = j := fun i j f h1 h2 => by
  have key : ∀ i, fam2 a b i = some f → i = f := fun i h => by
    unfold fam2 at h
    cases hb : Nat.beq i a with
    | true => rw [hb] at h; cases h; exact Nat.eq_of_beq_eq_true hb
    | false =>
      rw [hb] at h
      cases hb2 : Nat.beq i b with
      | true => rw [hb2] at h; cases h; exact Nat.eq_of_beq_eq_true hb2
      | false => rw [hb2] at h; cases h
  exact (key i h1).trans (key j h2).symm
theorem lv_of {O : Ar} (hO : O = std) {ops : Array Oper} {h : Hp} {f : Fm} {i j : Nat} {o : Oper} {c : List Cond} {r : AV} (hp : pickD O T ops [] h f [i] = some (j, o, c, r)) (hc : allC c) : lightV T ops h f i = some r := by
  obtain ⟨h1, _, _, h4⟩ := pickD_ok hO hp
  obtain rfl : j = i := by simpa using h1
  exact h4 (allC_ok hc)
def DayD.bun (d : DayD) (t : TruD) (w : Nat) : Int := quo64 (stemN d t.st w t.ns) (t.fe w)
def DayD.lef (d : DayD) (t : TruD) (w : Nat) : Int := (stemN d t.st w t.ns).tmod (t.fe w)
def sumN (b : Nat → Int) : Nat → Int
  | 0 => 0
  | i + 1 => add64 (sumN b i) (b i)
def DayD.all (d : DayD) (t : TruD) : Int := sumN (d.bun t) d.nw
structure TalD where
  n : Nat
  eb : Bool
  bun : Nat → Int
  el : Bool
  lef : Nat → Int
  hands : Int
  loose : Int
  flats : Int
  spare : Int
def talC (y : TalD) : List AV := [intsV y.n y.eb y.bun, intsV y.n y.el y.lef, iV y.hands, iV y.loose, iV y.flats, iV y.spare]
def talV (y : TalD) : AV := .agg (talC y)
theorem talC_below (y : TalD) : ∀ a ∈ talC y, Below 0 a := AllB.ok ⟨intsV_below _ _ _, intsV_below _ _ _, Below.lit, Below.lit, Below.lit, Below.lit, trivial⟩
theorem talV_below (y : TalD) : Below 0 (talV y) := Below.agg (talC_below y)
def DayD.tally (d : DayD) (t : TruD) : TalD where
  n := d.nw
  eb := false
  bun := d.bun t
  el := false
  lef := d.lef t
  hands := quo64 (d.all t) d.hand
  loose := (d.all t).tmod d.hand
  flats := quo64 (quo64 (d.all t) d.hand) d.flat
  spare := (quo64 (d.all t) d.hand).tmod d.flat
theorem intC_below (fl : Nat → Int) (i k : Nat) : Below 0 (intC fl i k) := Below.lit
theorem intC_one (fl : Nat → Int) (i k : Nat) : (intC fl i k).one = true := rfl
theorem Eqv.nil {sz : Nat} {ex : Bool} {g : Nat → Nat → AV} : Eqv (.lit (.slice none 0 0)) (.isl 0 sz ex g) := fun _ _ hv => by cases hv; exact .isl0 _ _ _
def slG (id sz : Nat) : Nat → AV
  | 0 => .lit (.slice none 0 0)
  | n + 1 => .sl id 0 (n + 1) sz false
def tal0 : List AV := [nl3, nl3, iV 0, iV 0, iV 0, iV 0]
theorem tal0_below : ∀ a ∈ tal0, Below 0 a := AllB.ok ⟨Below.lit, Below.lit, Below.lit, Below.lit, Below.lit, Below.lit, trivial⟩
def talS (d : DayD) (t : TruD) (A B : AV) (H : Hp) : St := ⟨H ++ [(3, .cells none false [A, B, iV 0, iV 0, iV 0, iV 0]), (2, .cells none false tal0), (1, .cells none false (truC t)), (0, .cells none false (dayC d))], 6⟩
def objs2 (b l : Nat → Int) : Nat → Hp
  | 0 => []
  | n + 1 => [(4, .cells none false (flatG 1 (intC b) (n + 1))), (5, .cells none false (flatG 1 (intC l) (n + 1)))]
theorem flatG_snoc (fl : Nat → Int) (n : Nat) (v : Int) (h : v = fl n) : flatG 1 (intC fl) n ++ [iV v] = flatG 1 (intC fl) (n + 1) := by
  rw [h]; rfl
set_option maxHeartbeats 8000000 in
theorem tally_ok (d : DayD) (t : TruD) (hf : t.nf = d.nw) (hs : t.ns = d.nl) (hw : d.nw ≤ 4) (hl : d.nl ≤ 4) (hfe : ∀ w, w < d.nw → t.fe w ≠ 0) (hh : d.hand ≠ 0) (hfl : d.flat ≠ 0) : Pure Try.prog 84 [dayV d, truV t] (talV (d.tally t)) := by
  obtain ⟨O, hO⟩ : ∃ O : Ar, O = std := ⟨_, rfl⟩
  have hnat : ∀ i : Nat, O.nat (Int.ofNat i) = i := fun i => by subst hO; rfl
  refine pure_of_body tok 3 Try.func84 en84 rfl ⟨dayV_below d, truV_below t, trivial⟩ (talV_below _) ?_
  refine SW.seqRun tok hO (by cbv <;> rfl) (by trivial) ?_
  refine SW.seqRun tok hO (by cbv <;> rfl) (by trivial) ?_
  refine SW.seqRun tok hO (by cbv <;> rfl) (by trivial) ?_
  obtain ⟨BU, hBU⟩ : ∃ b, b = d.bun t := ⟨_, rfl⟩
  obtain ⟨LE, hLE⟩ : ∃ b, b = d.lef t := ⟨_, rfl⟩
  have hsum : ∀ i v, v = BU i → O.bin .add .i64 (sumN BU i) v = sumN BU (i + 1) := fun i v hv => by subst hv; subst hO; rfl
  refine SW.seq (SW.mono (Q := fun e fm st => e = .normal ∧ ∃ g A B, fm = ⟨⟨61, g⟩, []⟩ ∧ g 2 = .ptr 0 0 ∧ g 4 = .ptr 2 0 ∧ g 5 = .ptr 3 0 ∧ g 6 = iV (sumN BU d.nw) ∧ Eqv A (intsV d.nw false BU) ∧ Eqv B (intsV d.nw false LE) ∧ (A = nl3 ∨ ∃ len sz h, A = .isl len sz false h) ∧ (B = nl3 ∨ ∃ len sz h, B = .isl len sz false h) ∧ st = talS d t A B []) ?_ ?_)
  · refine SW.seqRun tok hO (by cbv <;> rfl) (by trivial) ?_
    refine (SW.block (SW.loopR (fun i : Nat => ⟨⟨61, getT [(2, .ptr 0 0), (3, .ptr 1 0), (4, .ptr 2 0), (5, .ptr 3 0), (6, iV (sumN BU i)), (11, iV d.nw), (12, iV i)]⟩, []⟩) (fun i => talS d t (slG 4 1 i) (slG 5 1 i) (objs2 BU LE i)) (fun i => d.nw - i) (fun i => i ≤ d.nw) 0 (Nat.zero_le _) (ren2 4 4 5 5) ?_ fun i hi => ?_))
    · refine WeakR.up2 (fun _ => none) (fun _ _ _ h => by cases h) rfl rfl (by simp) (by show 4 ≤ 4; omega) (by show 4 ≤ 5; omega) (inj_of (by rfl)) (by show 4 ≤ 6; omega) ⟨RenV.ptr (by omega), RenV.ptr (by omega), RenV.ptr (by omega), RenV.ptr (by omega), RenV.closed Below.lit, RenV.closed Below.lit, RenV.closed Below.lit, trivial⟩
        ⟨⟨by omega, _, rfl, .cells (RenVs.closed tal0_below), rfl⟩, ⟨by omega, _, rfl, .cells (RenVs.closed tal0_below), rfl⟩, ⟨by omega, _, rfl, .cells (RenVs.closed (truC_below t)), rfl⟩, ⟨by omega, _, rfl, .cells (RenVs.closed (dayC_below d)), rfl⟩, trivial⟩
    have hpile := fun (h : i < d.nw) => pile_ok d t i (by omega) (by omega) (by omega)
    have hb := fun (h : i < d.nw) => bunches_ok (t.fe i) (stemN d t.st i t.ns) (hfe i h)
    have hlf := fun (h : i < d.nw) => left_ok (t.fe i) (stemN d t.st i t.ns) (hfe i h)
    have eb : quo64 (stemN d t.st i t.ns) (t.fe i) = BU i := by rw [hBU]; rfl
    have el : (stemN d t.st i t.ns).tmod (t.fe i) = LE i := by rw [hLE]; rfl
    rw [eb] at hb
    rw [el] at hlf
    generalize hF : t.fe i = F at hpile hb hlf
    generalize hS : stemN d t.st i t.ns = S at hpile hb hlf
    have hsum := hsum i
    obtain ⟨acc, hacc⟩ : ∃ acc, acc = sumN BU i := ⟨_, rfl⟩
    rw [← hacc] at hsum ⊢
    cases i with
    | zero =>
      refine SW.seqRun tok hO (by cbv <;> rfl) (by trivial) ?_
      refine SW.seq (SW.condS (by cbv <;> rfl) (fun h => SW.skip ?_) (fun h => ?_))
      · have hlt : 0 < d.nw := by subst hO; simpa [std] using h
        refine SW.seq (SW.block ?_)
        refine SW.seqRun tok hO (by cbv <;> rfl) (by trivial) ?_
        refine SW.seqRun tok hO (by cbv <;> rfl) (by trivial) ?_
        refine OpsW.callP (hpile hlt) (by cbv <;> rfl) ?_
        refine OpsW.run tok hO (by cbv <;> rfl) (by trivial) ?_
        refine SW.seqRunD tok mixed hO (by rfl) (by cbv <;> rfl) (by trivial) ?_
        refine AnyE.callP (hb hlt) (by cbv <;> rfl) (by cbv <;> rfl) ?_
        refine AnyE.run tok hO (by rfl) (by cbv <;> rfl) (by trivial) ?_
        refine AnyE.effK tok hO (by cbv <;> rfl) (by cbv <;> rfl) (by trivial) ?_ ?_
        · exact ⟨by cbv <;> rfl, by cbv <;> rfl, trivial⟩
        refine AnyE.appNil tok (by cbv <;> rfl) (by cbv <;> rfl) (by rfl) (by kernel_rfl) (by rfl) (by rfl) ?_
        refine AnyE.run tok hO (by rfl) (by cbv <;> rfl) (by trivial) ?_
        refine AnyE.eff tok hO (by cbv <;> rfl) (by cbv <;> rfl) (by trivial) ?_
        refine AnyE.done (by rfl) ?_
        refine SW.seqRunD tok mixed hO (by rfl) (by cbv <;> rfl) (by trivial) ?_
        refine AnyE.callP (hlf hlt) (by cbv <;> rfl) (by cbv <;> rfl) ?_
        refine AnyE.run tok hO (by rfl) (by cbv <;> rfl) (by trivial) ?_
        refine AnyE.effK tok hO (by cbv <;> rfl) (by cbv <;> rfl) (by trivial) ?_ ?_
        · exact ⟨by cbv <;> rfl, by cbv <;> rfl, trivial⟩
        refine AnyE.appNil tok (by cbv <;> rfl) (by cbv <;> rfl) (by rfl) (by kernel_rfl) (by rfl) (by rfl) ?_
        refine AnyE.run tok hO (by rfl) (by cbv <;> rfl) (by trivial) ?_
        refine AnyE.eff tok hO (by cbv <;> rfl) (by cbv <;> rfl) (by trivial) ?_
        refine AnyE.done (by rfl) ?_
        refine SW.run tok hO (by cbv <;> rfl) (by trivial) ?_
        refine OpsW.callP (hb hlt) (by cbv <;> rfl) ?_
        refine OpsW.run tok hO (by cbv <;> rfl) (by trivial) ?_
        refine SW.run tok hO (by cbv <;> rfl) (by trivial) ?_
        refine ⟨1, by omega, by omega, ren2 4 8 5 10, ?_⟩
        refine WeakR.up2 (fun _ => none) (fun _ _ _ h => by cases h) rfl rfl (by simp) (by show 4 ≤ 4; omega) (by show 4 ≤ 5; omega) (inj_of (by rfl)) (by show 4 ≤ 6; omega) ⟨RenV.ptr (by omega), RenV.ptr (by omega), RenV.ptr (by omega), RenV.ptr (by omega), ?_, RenV.closed Below.lit, RenV.inc hO (by omega), trivial⟩
          ⟨⟨by omega, _, rfl, .cells (RenVs.of_eq (by subst hO; rfl) (flatG_below (intC_below _) 1)), rfl⟩, ⟨by omega, _, rfl, .cells (RenVs.of_eq (by subst hO; rfl) (flatG_below (intC_below _) 1)), rfl⟩,
           ⟨by omega, _, rfl, .cells (.cons (RenV.sl (by omega)) (.cons (RenV.sl (by omega)) (RenVs.closed (AllB.ok ⟨Below.lit, Below.lit, Below.lit, Below.lit, trivial⟩)))), rfl⟩, ⟨by omega, _, rfl, .cells (RenVs.closed tal0_below), rfl⟩, ⟨by omega, _, rfl, .cells (RenVs.closed (truC_below t)), rfl⟩, ⟨by omega, _, rfl, .cells (RenVs.closed (dayC_below d)), rfl⟩, trivial⟩
        show RenV _ _ (iV (sumN BU 1)) (.lit (.int .i64 (O.bin .add .i64 acc (BU 0))))
        rw [hsum _ rfl]
        exact RenV.closed Below.lit
      · have hz : d.nw = 0 := by
          have : d.nw ≤ 0 := by subst hO; simpa [std] using h
          omega
        refine SW.exit ⟨rfl, _, nl3, nl3, rfl, rfl, rfl, rfl, ?_, ?_, ?_, .inl rfl, .inl rfl, rfl⟩
        · rw [hz, ← hacc]; rfl
        · rw [hz]; exact Eqv.nil
        · rw [hz]; exact Eqv.nil
    | succ i =>
      obtain ⟨GA, hGA⟩ : ∃ G, G = flatG 1 (intC BU) (i + 1) := ⟨_, rfl⟩
      obtain ⟨GB, hGB⟩ : ∃ G, G = flatG 1 (intC LE) (i + 1) := ⟨_, rfl⟩
      have hobj : objs2 BU LE (i + 1) = [(4, .cells none false GA), (5, .cells none false GB)] := by rw [hGA, hGB]; rfl
      show SW _ _ _ _ _ (talS d t (.sl 4 0 (i + 1) 1 false) (.sl 5 0 (i + 1) 1 false) (objs2 BU LE (i + 1)))
      rw [hobj]
      refine SW.seqRun tok hO (by cbv <;> rfl) (by trivial) ?_
      refine SW.seq (SW.condS (by cbv <;> rfl) (fun h => SW.skip ?_) (fun h => ?_))
      · have hlt : i + 1 < d.nw := by
          have : ((i + 1 : Nat) : Int) < (d.nw : Int) := by subst hO; simpa [std] using h
          omega
        refine SW.seq (SW.block ?_)
        refine SW.seqRun tok hO (by cbv <;> rfl) (by trivial) ?_
        refine SW.seqRun tok hO (by cbv <;> rfl) (by trivial) ?_
        refine OpsW.callP (hpile hlt) (by cbv <;> rfl) ?_
        refine OpsW.run tok hO (by cbv <;> rfl) (by trivial) ?_
        refine SW.seqRunD tok mixed hO (by rfl) (by cbv <;> rfl) (by trivial) ?_
        refine AnyE.callP (hb hlt) (by cbv <;> rfl) (by cbv <;> rfl) ?_
        refine AnyE.run tok hO (by rfl) (by cbv <;> rfl) (by trivial) ?_
        refine AnyE.effK tok hO (by cbv <;> rfl) (by cbv <;> rfl) (by trivial) ?_ ?_
        · exact ⟨by cbv <;> rfl, by cbv <;> rfl, trivial⟩
        refine AnyE.appOne (g := intC BU) tok (by cbv <;> rfl) (by cbv <;> rfl) (by rfl) (by rfl) hGA (by kernel_rfl) (by rfl) (by rfl) (by omega) fun GA' hGA' => ?_
        refine AnyE.run tok hO (by rfl) (by cbv <;> rfl) (by trivial) ?_
        refine AnyE.eff tok hO (by cbv <;> rfl) (by cbv <;> rfl) (by trivial) ?_
        refine AnyE.done (by rfl) ?_
        refine SW.seqRunD tok mixed hO (by rfl) (by cbv <;> rfl) (by trivial) ?_
        refine AnyE.callP (hlf hlt) (by cbv <;> rfl) (by cbv <;> rfl) ?_
        refine AnyE.run tok hO (by rfl) (by cbv <;> rfl) (by trivial) ?_
        refine AnyE.effK tok hO (by cbv <;> rfl) (by cbv <;> rfl) (by trivial) ?_ ?_
        · exact ⟨by cbv <;> rfl, by cbv <;> rfl, trivial⟩
        refine AnyE.appOne (g := intC LE) tok (by cbv <;> rfl) (by cbv <;> rfl) (by rfl) (by rfl) hGB (by kernel_rfl) (by rfl) (by rfl) (by omega) fun GB' hGB' => ?_
        refine AnyE.run tok hO (by rfl) (by cbv <;> rfl) (by trivial) ?_
        refine AnyE.eff tok hO (by cbv <;> rfl) (by cbv <;> rfl) (by trivial) ?_
        refine AnyE.done (by rfl) ?_
        refine SW.run tok hO (by cbv <;> rfl) (by trivial) ?_
        refine OpsW.callP (hb hlt) (by cbv <;> rfl) ?_
        refine OpsW.run tok hO (by cbv <;> rfl) (by trivial) ?_
        refine SW.run tok hO (by cbv <;> rfl) (by trivial) ?_
        refine ⟨i + 1 + 1, by omega, by omega, ren2 4 8 5 10, ?_⟩
        refine WeakR.up2 (fam2 4 5) (fam2_inj 4 5) rfl rfl (by simp) (by show 4 ≤ 4; omega) (by show 4 ≤ 5; omega) (inj_of (by rfl)) (by show 4 ≤ 6; omega) ⟨RenV.ptr (by omega), RenV.ptr (by omega), RenV.ptr (by omega), RenV.ptr (by omega), ?_, RenV.closed Below.lit, RenV.inc hO (by omega), trivial⟩
          ⟨⟨by omega, _, rfl, .cells (RenVs.of_eq (hGA'.trans (flatG_snoc BU (i + 1) _ rfl)) (flatG_below (intC_below _) _)), rfl⟩, ⟨by omega, _, rfl, .cells (RenVs.of_eq (hGB'.trans (flatG_snoc LE (i + 1) _ rfl)) (flatG_below (intC_below _) _)), rfl⟩,
           ⟨by omega, _, rfl, .cells (.cons (RenV.sl (by omega)) (.cons (RenV.sl (by omega)) (RenVs.closed (AllB.ok ⟨Below.lit, Below.lit, Below.lit, Below.lit, trivial⟩)))), rfl⟩, ⟨by omega, _, rfl, .cells (RenVs.closed tal0_below), rfl⟩, ⟨by omega, _, rfl, .cells (RenVs.closed (truC_below t)), rfl⟩, ⟨by omega, _, rfl, .cells (RenVs.closed (dayC_below d)), rfl⟩, trivial⟩
        show RenV _ _ (iV (sumN BU (i + 1 + 1))) (.lit (.int .i64 (O.bin .add .i64 acc (BU (i + 1)))))
        rw [hsum _ rfl]
        exact RenV.closed Below.lit
      · have hz : d.nw = i + 1 := by
          have : (d.nw : Int) ≤ ((i + 1 : Nat) : Int) := by subst hO; simpa [std] using h
          omega
        have hlA : (i + 1) * 1 ≤ GA.length := by rw [hGA, flatG_length]; omega
        have hlB : (i + 1) * 1 ≤ GB.length := by rw [hGB, flatG_length]; omega
        refine SW.freezeZ (fun j => Nat.beq j 4 || Nat.beq j 5) 3 (by rfl) (SW.exit ⟨rfl, _, _, _, rfl, rfl, rfl, rfl, ?_, ?_, ?_, ?_, ?_, rfl⟩)
        · rw [hz, ← hacc]; rfl
        · show Eqv (frz _ _ 3 (.sl 4 0 (i + 1) 1 false)) _
          rw [hz, frz_slE (fm := none) (G := GA) rfl rfl hlA, hGA]
          exact Eqv.isl rfl fun i' k hi' hk => Eqv.of (frz_flat hi' hk rfl)
        · show Eqv (frz _ _ 3 (.sl 5 0 (i + 1) 1 false)) _
          rw [hz, frz_slE (fm := none) (G := GB) rfl rfl hlB, hGB]
          exact Eqv.isl rfl fun i' k hi' hk => Eqv.of (frz_flat hi' hk rfl)
        · exact .inr ⟨_, _, _, frz_slE (fm := none) (G := GA) rfl rfl hlA⟩
        · exact .inr ⟨_, _, _, frz_slE (fm := none) (G := GB) rfl rfl hlB⟩
  · rintro e fm st ⟨rfl, g, A, B, rfl, g2, g4, g5, g6, hA, hB', fA, fB, rfl⟩
    have hall : d.all t = sumN BU d.nw := by rw [hBU]; rfl
    have hres : ∀ x y z u : Int, x = quo64 (sumN BU d.nw) d.hand → y = (sumN BU d.nw).tmod d.hand → z = quo64 (quo64 (sumN BU d.nw) d.hand) d.flat → u = (quo64 (sumN BU d.nw) d.hand).tmod d.flat → Eqv (.agg [A, B, iV x, iV y, iV z, iV u]) (talV (d.tally t)) := fun x y z u hx hy hz hu => by
      subst hx; subst hy; subst hz; subst hu
      unfold talV talC DayD.tally
      rw [hall, ← hBU, ← hLE]
      exact Eqv.agg (.cons hA (.cons hB' (.cons (Eqv.refl _) (.cons (Eqv.refl _) (.cons (Eqv.refl _) (.cons (Eqv.refl _) .nil))))))
    generalize sumN BU d.nw = al at g6 hres
    rw [← updT_self g2, ← updT_self g4, ← updT_self g5, ← updT_self g6]
    rcases fA with rfl | ⟨la, sa, ha, rfl⟩ <;> rcases fB with rfl | ⟨lb, sb, hb2, rfl⟩
    all_goals
      refine SW.seqRunD tok mixed hO (by rfl) (by cbv <;> rfl) ?_ ?_
      · first | exact hh | exact ⟨hh, hh⟩
      refine AnyE.effK tok hO (by cbv <;> rfl) (by cbv <;> rfl) (by trivial) ?_ ?_
      · exact ⟨by refine lv_of hO (by cbv <;> rfl) ?_; exact hh, by cbv <;> rfl, by cbv <;> rfl, by cbv <;> rfl, trivial⟩
      refine AnyE.run tok hO (by rfl) (by cbv <;> rfl) (by trivial) ?_
      refine AnyE.eff tok hO (by cbv <;> rfl) (by cbv <;> rfl) (by trivial) ?_
      refine AnyE.done (by rfl) ?_
      refine SW.seqRunD tok mixed hO (by rfl) (by cbv <;> rfl) ?_ ?_
      · first | exact hfl | exact ⟨hfl, hfl⟩
      refine AnyE.effK tok hO (by cbv <;> rfl) (by cbv <;> rfl) (by trivial) ?_ ?_
      · exact ⟨by refine lv_of hO (by cbv <;> rfl) ?_; exact hfl, by cbv <;> rfl, by cbv <;> rfl, trivial⟩
      refine AnyE.run tok hO (by rfl) (by cbv <;> rfl) (by trivial) ?_
      refine AnyE.eff tok hO (by cbv <;> rfl) (by cbv <;> rfl) (by trivial) ?_
      refine AnyE.done (by rfl) ?_
      refine SW.seqRun tok hO (by cbv <;> rfl) (by trivial) ?_
      refine SW.ret ⟨_, _, rfl, rfl, ?_⟩
      exact hres _ _ _ _ (by subst hO; rfl) (by subst hO; rfl) (by subst hO; rfl) (by subst hO; rfl)
end Go.Fz
