/- Own work of the verifier of watercress: FzD1, FzD2, FzJ1, FzJ2, FzJ3, FzD3, FzD4. -/
import Derived.Test.YtpefamheopplnaaMm14
import Derived.Test.YtpefamheopplnaaMm16
import Derived.Test.YtpefamheopplnaaMm17
set_option linter.unusedVariables false
set_option linter.unusedSimpArgs false
namespace Go.Fz
variable {P : Program} {T : Ti}
def not01 (j : Nat) : Bool := !(Nat.beq j 0) && !(Nat.beq j 1)
def roM (es : List (AV × AV × Nat)) (clock : Nat) : St := ⟨[(1, .cells none true [.mp 0]), (0, .map es clock)], 2⟩
theorem roM_get {es : List (AV × AV × Nat)} {clock id : Nat} {o : AObj} (h : (roM es clock).h.get id = some o) : (id = 1 ∧ o = .cells none true [.mp 0]) ∨ (id = 0 ∧ o = .map es clock) := by
  simp only [roM, Hp.get] at h
  split at h
  · rename_i hi; cases h; exact .inl ⟨hi.symm, rfl⟩
  · split at h
    · rename_i hi; cases h; exact .inr ⟨hi.symm, rfl⟩
    · cases h
theorem call_roM {g : FuncId} {args args2 : List AV} {r : AV} {m mid bid : Nat} {fm : Option Nat} {ro : Bool} {es : List (AV × AV × Nat)} {clock : Nat} {st : St} (hm : st.h.get mid = some (.map es clock)) (hb : st.h.get bid = some (.cells fm ro [.mp mid]))
    (hes : ∀ x ∈ es, Below 0 x.1 ∧ Below 0 x.2.1) (hr : Below 0 r)
    (ha : ∀ (φ : Fi) (us : List Value), VRL φ args us → VRL ⟨fun i => if i = 0 then φ.f mid else φ.f bid, 2, φ.z⟩ args2 us)
    (h : CallW P g args2 (roM es clock) (fun v st' => st'.h.get 0 = some (.map es clock) ∧ freeB st'.h not01 = true ∧ Eqv (frz st'.h not01 m v) r)) : CallW P g args st (fun v st' => v = r ∧ st' = st) := by
  intro φ w cargs n hrel hargs
  obtain ⟨φ0, hφ0⟩ : ∃ φ0 : Fi, φ0 = ⟨fun i => if i = 0 then φ.f mid else φ.f bid, 2, φ.z⟩ := ⟨_, rfl⟩
  have f0 : φ0.f 0 = φ.f mid := by rw [hφ0]; rfl
  have f1 : φ0.f 1 = φ.f bid := by rw [hφ0]; rfl
  have n0 : φ0.n = 2 := by rw [hφ0]
  have z0 : φ0.z = φ.z := by rw [hφ0]
  have hne : mid ≠ bid := fun e => by rw [e, hb] at hm; cases hm
  have closed : ∀ {a : AV} {v : Value}, Below 0 a → VR φ a v → VR φ0 a v := fun hb h =>
    VR.mono (φ := ⟨φ.f, 0, φ.z⟩) (φ' := φ0) ⟨Nat.zero_le _, fun id hid => absurd hid (Nat.not_lt_zero id), fun b c hb => by rw [z0]; exact hb⟩ (hb _ _ h)
  have hblk : (φ.f mid).b ≠ (φ.f bid).b := fun he => by
    obtain ⟨⟨f, hf, _⟩, _⟩ := hrel.sep mid bid _ _ hm hb hne rfl he
    cases hf
  have hrel0 : Rel φ0 (roM es clock) w := by
    refine ⟨n0, fun j o h => ?_, fun j o h => ?_, fun j o h => ?_, fun i j oi oj hi hj hij ho hbb => ?_, fun j o f h hf => ?_, fun b c hb' => ?_⟩
    · rcases roM_get h with ⟨rfl, rfl⟩ | ⟨rfl, rfl⟩ <;> (show _ < 2; omega)
    · rcases roM_get h with ⟨rfl, rfl⟩ | ⟨rfl, rfl⟩
      · rw [f1]; exact hrel.blk _ _ hb
      · rw [f0]; exact hrel.blk _ _ hm
    · rcases roM_get h with ⟨rfl, rfl⟩ | ⟨rfl, rfl⟩
      · refine ⟨fun i a hi => ?_, fun h => by cases h⟩
        obtain ⟨v, h1, h2⟩ := (hrel.obj bid _ hb).1 0 (.mp mid) rfl
        cases i with
        | zero =>
          cases hi
          obtain ⟨rfl, _⟩ := h2.mp_inv
          have hv := VR.mp (φ := φ0) 0 (by rw [n0]; omega)
          rw [f0] at hv
          exact ⟨_, by rw [f1]; exact h1, hv⟩
        | succ i => cases hi
      · obtain ⟨ces, h1, h2, h3⟩ := hrel.obj mid _ hm
        refine ⟨ces, by rw [f0]; exact h1, h2, fun i x hx => ?_⟩
        obtain ⟨e, k1, k2, k3, k4⟩ := h3 i x hx
        obtain ⟨b1, b2⟩ := hes x (List.mem_of_getElem? hx)
        exact ⟨e, k1, closed b1 k2, closed b2 k3, k4⟩
    · exfalso
      rcases roM_get hi with ⟨rfl, rfl⟩ | ⟨rfl, rfl⟩
      · cases ho
      · rcases roM_get hj with ⟨rfl, rfl⟩ | ⟨rfl, rfl⟩
        · rw [f0, f1] at hbb; exact hblk hbb
        · exact hij rfl
    · rcases roM_get h with ⟨rfl, rfl⟩ | ⟨rfl, rfl⟩ <;> cases hf
    · obtain ⟨h1, h2, h3⟩ := hrel.froz b c (by rw [← z0]; exact hb')
      refine ⟨h1, h2, fun j o h ho => ?_⟩
      rcases roM_get h with ⟨rfl, rfl⟩ | ⟨rfl, rfl⟩
      · cases ho
      · rw [f0]; exact h3 mid _ hm rfl
  refine (h φ0 w cargs n hrel0 (by have := ha φ _ hargs; rw [hφ0]; exact this)).mono fun e w1 hp => ?_
  obtain ⟨v, cv, st1, φ1, rfl, ⟨hmap, hfree, hv⟩, hvr, hext, hrel1, hfr⟩ := hp
  obtain ⟨hrel2, hfr2⟩ := hrel1.freeze hfree
  have hvr2 := frz_ok (D := not01) hrel1 m hvr
  replace hvr2 := hv _ _ hvr2
  have hfr3 := hfr.trans hfr2
  have e0 : φ1.f 0 = φ.f mid := (hext.f 0 (by rw [n0]; omega)).trans f0
  have hown : ∀ b, Owns φ0 (roM es clock) b → b = (φ.f mid).b := fun b ⟨j, o, h, ho, hb⟩ => by
    rcases roM_get h with ⟨rfl, rfl⟩ | ⟨rfl, rfl⟩
    · cases ho
    · rw [← hb, f0]
  have hkeep : (st1.keep fun i => !not01 i).h.get 0 = some (.map es clock) := Hp.filter_get (p := fun i => !not01 i) hmap (by rfl)
  have hzs : ∀ b c, zOf φ1 st1.h not01 w1 b = some c → φ.z b = some c ∨ w.heap.size ≤ b := fun b c hb => by
    rcases hfr3.zs b c hb with h | h | h
    · exact .inl (by rw [← z0]; exact h)
    · exfalso
      exact (hrel2.froz b c hb).2.2 0 _ hkeep rfl (by show (φ1.f 0).b = b; rw [e0, hown b h])
    · exact .inr h
  have hext3 : Ext φ ⟨φ.f, φ.n, zOf φ1 st1.h not01 w1⟩ := ⟨Nat.le_refl _, fun _ _ => rfl, fun b c hb => zOf_old (hext.z b c (by rw [z0]; exact hb))⟩
  have hback : ∀ {a : AV} {v : Value}, Below 0 a → VR ⟨φ1.f, φ1.n, zOf φ1 st1.h not01 w1⟩ a v → VR ⟨φ.f, φ.n, zOf φ1 st1.h not01 w1⟩ a v := fun hb h =>
    VR.mono (φ := ⟨φ1.f, 0, zOf φ1 st1.h not01 w1⟩) (φ' := ⟨φ.f, φ.n, zOf φ1 st1.h not01 w1⟩) ⟨Nat.zero_le _, fun id hid => absurd hid (Nat.not_lt_zero id), fun b c hb => hb⟩ (hb _ _ h)
  have hsame : ∀ k, k < w.heap.size → k ≠ (φ.f mid).b → w1.heap[k]? = w.heap[k]? := fun k hk hne => hfr3.block k hk fun ho => hne (hown k ho)
  refine ⟨r, cv, st, ⟨φ.f, φ.n, zOf φ1 st1.h not01 w1⟩, rfl, ⟨rfl, rfl⟩, hback hr hvr2, hext3, ?_, ?_⟩
  · refine ⟨hrel.n, hrel.lt, fun id o ho => Nat.lt_of_lt_of_le (hrel.blk id o ho) hfr3.size, fun id o ho => ?_, hrel.sep, hrel.fam, fun b c hb => ?_⟩
    · by_cases hi : id = mid
      · subst hi
        rw [hm] at ho; cases ho
        obtain ⟨ces, h1, h2, h3⟩ := hrel1.obj 0 _ hmap
        refine ⟨ces, by rw [← h1, e0], h2, fun i x hx => ?_⟩
        obtain ⟨e, k1, k2, k3, k4⟩ := h3 i x hx
        obtain ⟨b1, b2⟩ := hes x (List.mem_of_getElem? hx)
        have hz : Ext φ1 ⟨φ1.f, φ1.n, zOf φ1 st1.h not01 w1⟩ := ⟨Nat.le_refl _, fun _ _ => rfl, fun b c hb => zOf_old hb⟩
        exact ⟨e, k1, hback b1 (k2.mono hz), hback b2 (k3.mono hz), k4⟩
      · refine (hrel.obj id o ho).same hext3 (by rw [hrel.n]; exact hrel.lt id o ho) (hsame _ (hrel.blk id o ho) fun he => ?_)
        obtain ⟨⟨f, hf, _⟩, _⟩ := hrel.sep mid id _ o hm ho (Ne.symm hi) rfl he.symm
        cases hf
    · obtain ⟨h1, h2, _⟩ := hrel2.froz b c hb
      refine ⟨h1, h2, fun id o ho hown' hbb => ?_⟩
      rcases hzs b c hb with h3 | h3
      · exact (hrel.froz b c h3).2.2 id o ho hown' hbb
      · have := hrel.blk id o ho
        have hbb' : (φ.f id).b = b := hbb
        omega
  · exact ⟨hfr3.os, hfr3.tape, hfr3.output, hfr3.size, fun k hk hno => hsame k hk (fun he => hno ⟨mid, _, hm, rfl, he.symm⟩), fun k hk => .inl hk, fun b c hb => (hzs b c hb).elim .inl fun h => .inr (.inr h)⟩
theorem CallW.mpArg {g : FuncId} {st : St} {k : AV → St → Prop} (A : AV → List AV) {id : Nat} (hA : ∀ (φ : Fi) (us : List Value), VRL φ (A (.mp id)) us → ∃ b, VRL φ (A (.lit (.map b))) us) (h : ∀ b, CallW P g (A (.lit (.map b))) st k) : CallW P g (A (.mp id)) st k := fun φ w cargs n h1 h2 => by
  obtain ⟨b, hb⟩ := hA φ _ h2
  exact h b φ w cargs n h1 hb
end Go.Fz
namespace Go.Fz
open Go.Proofs
set_option maxRecDepth 100000
section
variable {P : Program}
theorem SW.preR {rd : Option Nat} {c : Code} {Q : Exit → Fm → St → Prop} {f f2 : Fm} {st st2 : St} {ρ : Nat → Nat} (hw : WeakR st.n ρ f st f2 st2) (h : SW P rd c Q f2 st2) : SW P rd c Q f st := by
  intro φ w a n h1 h2 h3
  obtain ⟨k1, k2, k3⟩ := hw.ok h2 h3
  have he : Ext φ (renF φ ρ st2.n) := ⟨by show φ.n ≤ st2.n; rw [h2.n]; exact hw.lo, fun id hid => by show φ.f (ρ id) = _; rw [hw.idn id (by rw [← h2.n]; exact hid)], fun _ _ hb => hb⟩
  have h4 := h (renF φ ρ st2.n) w a n (fun id hid => Nat.lt_of_lt_of_le (h1 id hid) he.n) k1 k2
  rw [rdB_ext he h1] at h4
  exact wpIn_mono h4 fun e a' w' hl => hl.trans he k3
theorem RenV.getT {ρ : Nat → Nat} {n : Nat} : ∀ {l : List (Nat × AV)}, AllP (fun p => RenV ρ n p.2 p.2) l → ∀ i, RenV ρ n (getT l i) (getT l i)
  | [], _, i => RenV.any
  | (j, a) :: r, h, i => by
    simp only [Fz.getT]
    cases Nat.beq j i with
    | true => exact h.1
    | false => exact RenV.getT h.2 i
end
section
variable {β : Type} [DecidableEq β]
def BornG (E : List (β × Nat)) (c : Nat) : Prop := (∀ p ∈ E, p.2 < c) ∧ (E.map (·.2)).Nodup
theorem BornG.upd {E : List (β × Nat)} {c : Nat} (h : BornG E c) (b : β) : BornG (updE E b c) (updC E b c) := by
  unfold updE updC
  split
  · exact h
  · refine ⟨fun p hp => ?_, ?_⟩
    · rcases List.mem_append.1 hp with hp | hp
      · have := h.1 p hp; omega
      · rw [List.mem_singleton.1 hp]
        show c < c + 1; omega
    · rw [List.map_append, List.nodup_append]
      refine ⟨h.2, by simp, fun x hx y hy => ?_⟩
      obtain ⟨p, hp, rfl⟩ := List.mem_map.1 hx
      have := h.1 p hp
      simp at hy
      omega
def pkP (K : Nat → β) : Nat → List (β × Nat) × Nat
  | 0 => ([], 0)
  | i + 1 => (updE (pkP K i).1 (K i) (pkP K i).2, updC (pkP K i).1 (K i) (pkP K i).2)
theorem pkP_born (K : Nat → β) : ∀ n, BornG (pkP K n).1 (pkP K n).2
  | 0 => ⟨(fun _ h => nomatch h), List.nodup_nil⟩
  | n + 1 => (pkP_born K n).upd (K n)
theorem pkP_mem (K : Nat → β) (x : β) : ∀ n, x ∈ (pkP K n).1.map (·.1) ↔ ∃ j, j < n ∧ K j = x
  | 0 => by
    show x ∈ [] ↔ _
    exact ⟨fun h => (by cases h), fun ⟨_, h, _⟩ => absurd h (Nat.not_lt_zero _)⟩
  | n + 1 => by
    show x ∈ (updE _ _ _).map (·.1) ↔ _
    rw [updE_mem, pkP_mem K x n]
    constructor
    · rintro (⟨j, h1, h2⟩ | h)
      · exact ⟨j, by omega, h2⟩
      · exact ⟨n, by omega, h.symm⟩
    · rintro ⟨j, h1, h2⟩
      by_cases e : j = n
      · exact .inr (by rw [← e]; exact h2.symm)
      · exact .inl ⟨j, by omega, h2⟩
theorem updE_len (E : List (β × Nat)) (b : β) (c : Nat) : (updE E b c).length ≤ E.length + 1 := by
  unfold updE; split
  · omega
  · rw [List.length_append, List.length_singleton]; exact Nat.le_refl _
theorem pkP_len (K : Nat → β) : ∀ n, (pkP K n).1.length ≤ n
  | 0 => Nat.le_refl _
  | n + 1 => by
    have h1 := pkP_len K n
    have h2 := updE_len (pkP K n).1 (K n) (pkP K n).2
    show (updE _ _ _).length ≤ n + 1
    omega
end
def inK (p : Int × Int) : Bool := decide (0 ≤ p.1) && decide (p.1 ≤ 1000000) && decide (0 ≤ p.2) && decide (p.2 ≤ 1000000)
abbrev PK := { p : Int × Int // inK p = true }
def pkV (p : PK) : AV := .agg [iV p.1.1, iV p.1.2]
theorem pkV_below (p : PK) : Below 0 (pkV p) := Below.agg (AllB.ok ⟨Below.lit, Below.lit, trivial⟩)
theorem keyed121 : Maps.Keyed Try.prog 121 := Maps.Keyed.of_law (deep_law_laid (m := 3) laid (by omega) (lt_of_ble (by kernel_rfl)) (by kernel_rfl) (by kernel_rfl))
theorem wf64 {n : Int} (h0 : 0 ≤ n) (h1 : n ≤ 1000000) : (Lit.int .i64 n).wf = true := by
  simp [Lit.wf, IntKind.min, IntKind.max, IntKind.signed, IntKind.bits]
  omega
theorem keyOf_pair {P : Program} {t e : TypeId} {f0 f1 : Field} {d : Nat} (hu : P.underlying t = some (.struct #[f0, f1])) (hsz : P.types.size = d + 1) (h0 : f0.type = e) (h1 : f1.type = e) (o0 : f0.offset = 0) (o1 : f1.offset = 1) (n0 : (f0.name != "_") = true) (n1 : (f1.name != "_") = true)
    (he : P.underlying e = some (.int .i64)) (c1 : P.cellsOf t = 2) (c3 : P.cellsOf e = 1) (k1 : P.keyType t = true) {a b : Int} (ha : (Lit.int .i64 a).wf = true) (hb : (Lit.int .i64 b).wf = true) : ∃ l, keyOf P t (.agg #[.int .i64 a, .int .i64 b]) = some l := by
  have f1' : Value.formed P t (.agg #[.int .i64 a, .int .i64 b]) = true := by simp [Value.formed, hu, c1]
  have hl : ∀ x : Int, (Lit.int .i64 x).wf = true → P.keyLits (d + 1) e [.int .i64 x] = some [.int .i64 x] := fun x hx => by
    unfold Program.keyLits
    rw [he]
    simp [hx]
  have hk : P.keyLits (P.types.size + 1) t [.int .i64 a, .int .i64 b] = some [.int .i64 a, .int .i64 b] := by
    rw [hsz]
    unfold Program.keyLits
    rw [hu]
    simp only [List.length_cons, List.length_nil, c1]
    rw [if_pos ⟨trivial, by simp [n0, n1]⟩]
    simp [h0, h1, o0, o1, c3, hl a ha, hl b hb]
  refine ⟨.string (keyBytes [.int .i64 a, .int .i64 b]), ?_⟩
  unfold keyOf
  rw [hu]
  simp only [k1, f1', Bool.and_true, if_true]
  show Option.map _ (P.keyLits _ t [.int .i64 a, .int .i64 b]) = _
  rw [hk]; rfl
theorem pk_key {a b : Int} (ha : (Lit.int .i64 a).wf = true) (hb : (Lit.int .i64 b).wf = true) : ∃ l, keyOf Try.prog 121 (.agg #[.int .i64 a, .int .i64 b]) = some l :=
  keyOf_pair (e := 3) (d := 207) Try.underlying121 (by kernel_rfl) rfl rfl rfl rfl (by decide) (by decide) Try.underlying3 (by kernel_rfl) (by kernel_rfl) (by kernel_rfl) ha hb
def pkKey : KeyF Try.prog 121 pkV where
  den p := .agg #[.int .i64 p.1.1, .int .i64 p.1.2]
  val φ b u h := by
    obtain ⟨us, rfl, h1⟩ := h.agg_inv
    match us, h1 with
    | [_, _], .cons h1 (.cons h2 .nil) => rw [h1.lit_inv, h2.lit_inv]
  key b := by
    obtain ⟨b, h⟩ := b
    simp only [inK, Bool.and_eq_true, decide_eq_true_eq] at h
    exact pk_key (wf64 h.1.1.1 h.1.1.2) (wf64 h.1.2 h.2)
  inj b c h := by
    obtain ⟨⟨b0, b1⟩, _⟩ := b
    obtain ⟨⟨c0, c1⟩, _⟩ := c
    simp at h
    simp [h]
noncomputable def enParts : Code × Code := match nthC 2 (bodyF Try.f59) with
  | .seq _ (.block _ (.rangeFunc _ _ a b)) => (a, b)
  | c => (c, c)
def enL : List (Nat × AV) := [(3, .ptr 2 0), (4, .ptr 3 0), (5, .ptr 4 0), (7, .fn (.func 99) [] [.ptr 1 0])]
noncomputable def enR : ALoop := { state := .ready, pending := none, tmps := ⟨24, getT enL⟩, params := #[8], assign := enParts.1, body := enParts.2, dfid := 5 }
noncomputable def enH (g : FuncId) (ME : List (AV × AV × Nat)) (cl : Nat) (X : AV) : Hp :=
  [(6, .loop enR), (5, .dfr), (4, .cells none false [X]), (3, .cells none false [iV 0, iV 0]), (2, .cells none false [.fn (.func g) [] []]), (1, .cells none true [.mp 0]), (0, .map ME cl)]
set_option maxHeartbeats 8000000 in
theorem en_round0 (g : FuncId) (p q u : Int) (hof : Pure Try.prog g [.agg [iV p, iV q]] (iV u)) (ME : List (AV × AV × Nat)) (cl : Nat) (it : AObj) :
    YieldW Try.prog 6 [.agg [iV p, iV q]] ⟨(9, .cells none false [iV p, iV q]) :: (7, it) :: enH g ME cl nl3, 10⟩
      (fun v st' => v = .lit (.bool true) ∧ st' = ⟨(12, .cells none false [iV u]) :: (11, .cells none false [iV u]) :: (10, .cells none false [iV p, iV q]) :: (9, .cells none false [iV p, iV q]) :: (7, it) :: enH g ME cl (.sl 12 0 1 1 false), 13⟩) := by
  obtain ⟨O, hO⟩ : ∃ O : Ar, O = std := ⟨_, rfl⟩
  refine YieldW.of_round (r := enR) rfl rfl ?_
  refine SW.run tok hO (by cbv <;> rfl) (by trivial) ?_
  refine ⟨enR, rfl, rfl, SW.block ?_⟩
  obtain ⟨RB, hRB⟩ : ∃ r, r = ({ enR with state := .busy } : ALoop) := ⟨_, rfl⟩
  rw [← hRB]
  refine SW.runD tok mixed hO (by rfl) (by cbv <;> rfl) (by trivial) ?_
  refine AnyE.callP hof (by cbv <;> rfl) (by cbv <;> rfl) ?_
  refine AnyE.run tok hO (by rfl) (by cbv <;> rfl) (by trivial) ?_
  refine AnyE.effK tok hO (by cbv <;> rfl) (by cbv <;> rfl) (by trivial) ?_ ?_
  · exact (by repeat (first | exact trivial | refine And.intro (by first | exact lv_of hO (by cbv <;> rfl) (by trivial) | (cbv <;> rfl)) ?_))
  refine AnyE.run tok hO (by rfl) (by cbv <;> rfl) (by trivial) ?_
  refine AnyE.appNil tok (by cbv <;> rfl) (by cbv <;> rfl) (by rfl) (by kernel_rfl) (by rfl) (by rfl) ?_
  refine AnyE.run tok hO (by rfl) (by cbv <;> rfl) (by trivial) ?_
  refine AnyE.eff tok hO (by cbv <;> rfl) (by cbv <;> rfl) (by trivial) ?_
  refine AnyE.done (by rfl) ?_
  refine ⟨RB, rfl, rfl, ?_⟩
  subst hRB
  rfl
end Go.Fz
namespace Go.Fz
open Go.Proofs
set_option maxRecDepth 100000
def cells4 (g : Nat → Int) : List AV := [iV (g 0), iV (g 1), iV (g 2), iV (g 3)]
theorem cells4_below (n : Nat) (g : Nat → Int) : ∀ a ∈ cells4 g, Below n a := AllB.ok ⟨Below.lit, Below.lit, Below.lit, Below.lit, trivial⟩
def fvF (f0 fl : Nat → Int) : Nat → Nat → Int
  | 0, _ => 0
  | i + 1, j => if fl i = (j : Int) then f0 j else fvF f0 fl i j
set_option maxHeartbeats 8000000 in
theorem feelsOf_ok (nw N : Nat) (ea ex : Bool) (eb : Bool) (nl : Nat) (f0 f1 fl : Nat → Int) (h4 : nw ≤ 4) (hN : N < 1000) (hfl : ∀ k, k < N → 0 ≤ fl k ∧ fl k < (nw : Int)) :
    Pure Try.prog 104 [.agg [intsV nw ea f0, intsV nl eb f1], intsV N ex fl] (.agg (cells4 (fvF f0 fl N))) := by
  obtain ⟨O, hO⟩ : ∃ O : Ar, O = std := ⟨_, rfl⟩
  have hnat : ∀ i : Nat, O.nat (Int.ofNat i) = i := fun i => by subst hO; rfl
  refine pure_of_body tok 3 Try.func104 en104 rfl ⟨Below.agg (AllB.ok ⟨intsV_below _ _ _, intsV_below _ _ _, trivial⟩), intsV_below _ _ _, trivial⟩ (Below.agg (cells4_below 0 _)) ?_
  refine SW.seqRun tok hO (by cbv <;> rfl) (by trivial) ?_
  refine SW.seqRun tok hO (by cbv <;> rfl) (by trivial) ?_
  refine SW.seq ?_
  refine SW.seqRun tok hO (by cbv <;> rfl) (by trivial) ?_
  refine (SW.block (SW.loopF (fun i : Nat => ⟨⟨23, getT [(2, .ptr 0 0), (4, .ptr 1 0), (5, .ptr 2 0), (8, intsV N ex fl), (9, iV N), (10, iV i)]⟩, []⟩)
    (fun i => ⟨[(2, .cells none false (cells4 (fvF f0 fl i))), (1, .cells none false (cells4 fun _ => 0)), (0, .cells none false [intsV nw ea f0, intsV nl eb f1])], 3⟩) (fun i => N - i) (fun i => i ≤ N) 0
    (fun _ => rfl) (Nat.zero_le _) (Weak.by rfl rfl (by simp) (Nat.le_refl _) (Nat.le_refl _) ⟨⟨rfl, .inl rfl⟩, ⟨rfl, .inl rfl⟩, ⟨rfl, .inl rfl⟩, ⟨rfl, .inl rfl⟩, ⟨rfl, .inl rfl⟩, ⟨rfl, .inl rfl⟩, trivial⟩ ⟨⟨rfl, by omega, .inl rfl⟩, ⟨rfl, by omega, .inl rfl⟩, ⟨rfl, by omega, .inl rfl⟩, trivial⟩) fun i hi => ?_))
  generalize hM : fvF f0 fl i = M
  refine SW.seqRun tok hO (by cbv <;> rfl) (by trivial) ?_
  refine SW.seq (SW.condS (by cbv <;> rfl) (fun h => SW.skip ?_) (fun h => SW.exit ?_))
  · have hlt : i < N := by subst hO; simpa [std] using h
    have hi0 : (0 : Int) ≤ Int.ofNat i := Int.natCast_nonneg i
    have hlt' : Int.ofNat i < (N : Int) := Int.ofNat_lt.2 hlt
    obtain ⟨k1, k2⟩ := hfl i hlt
    have hv : fl (O.nat (Int.ofNat i)) = fl i := by rw [hnat]
    refine SW.seq (SW.block ?_)
    refine SW.seqRun tok hO (by cbv <;> rfl) ?_ ?_
    · exact ⟨hi0, hlt'⟩
    have c1 : 0 ≤ fl (O.nat (Int.ofNat i)) ∧ fl (O.nat (Int.ofNat i)) < (nw : Int) := by rw [hv]; exact ⟨k1, k2⟩
    have c2 : 0 ≤ fl (O.nat (Int.ofNat i)) ∧ fl (O.nat (Int.ofNat i)) < ((4 : Nat) : Int) := ⟨c1.1, by omega⟩
    have c3 : O.nat (fl (O.nat (Int.ofNat i))) < 4 := by
      rw [hv]
      have : O.nat (fl i) = (fl i).toNat := by subst hO; rfl
      rw [this]; omega
    refine SW.run tok hO (by cbv <;> rfl) ?_ ?_
    · exact ⟨c3, c2, c1⟩
    refine SW.run tok hO (by cbv <;> rfl) (by trivial) ?_
    have hk : ∀ j : Nat, O.ups j (O.nat (fl (O.nat (Int.ofNat i)))) (f0 (O.nat (fl (O.nat (Int.ofNat i))))) (M j) = fvF f0 fl (i + 1) j := fun j => by
      rw [hv, ← hM]
      have e1 : O.nat (fl i) = (fl i).toNat := by subst hO; rfl
      have e2 : ∀ (j i : Nat) (v x : Int), O.ups j i v x = if i = j then v else x := fun _ _ _ _ => by subst hO; rfl
      rw [e1, e2]
      show _ = if fl i = (j : Int) then f0 j else fvF f0 fl i j
      by_cases e : fl i = (j : Int)
      · have e3 : (fl i).toNat = j := by omega
        rw [if_pos e, if_pos e3, e3]
      · have e3 : (fl i).toNat ≠ j := by omega
        rw [if_neg e, if_neg e3]
    refine ⟨i + 1, by omega, by omega, Weak.by rfl rfl (by simp) (Nat.le_refl _) (Nat.le_refl _) ⟨⟨rfl, .inl rfl⟩, ⟨rfl, .inl rfl⟩, ⟨rfl, .inl rfl⟩, ⟨rfl, .inl rfl⟩, ⟨rfl, .inl rfl⟩, ⟨inc_ok hO (by omega), .inl rfl⟩, trivial⟩
      ⟨⟨congrArg (fun l => some (AObj.cells none false l)) ?_, by omega, .inl rfl⟩, ⟨rfl, by omega, .inl rfl⟩, ⟨rfl, by omega, .inl rfl⟩, trivial⟩⟩
    simp only [cells4, ← hk]
    rfl
  · have hge : N ≤ i := by subst hO; simpa [std] using h
    have hiN : i = N := by omega
    have hMN : fvF f0 fl N = M := by rw [← hiN]; exact hM
    rw [hMN]
    refine SW.seqRun tok hO (by cbv <;> rfl) (by trivial) ?_
    refine SW.ret ⟨_, _, rfl, rfl, Eqv.of rfl⟩
end Go.Fz
namespace Go.Fz
open Go.Proofs
set_option maxRecDepth 100000
section
variable {P : Program} {T : Ti} {β : Type}
def mapI (V : β → AV) (E : List ((β × Int) × Nat)) : List (AV × AV × Nat) := E.map fun p => (V p.1.1, iV p.1.2, p.2)
def ZeroI (P : Program) (e : TypeId) : Prop := ∀ w : World, (zeroValue e).run P w = .ok (.int .i64 0) w
theorem mapI_ent {φ : Fi} {V : β → AV} {kt : TypeId} (F : KeyF P kt V) {E : List ((β × Int) × Nat)} {ces : Array MapEntry} (hes : ∀ (i : Nat) (x : AV × AV × Nat), (mapI V E)[i]? = some x → ∃ e, ces[i]? = some e ∧ VR φ x.1 e.key ∧ VR φ x.2.1 e.val ∧ e.born = x.2.2) :
    ∀ (i : Nat) (p : (β × Int) × Nat), E[i]? = some p → ∃ e, ces[i]? = some e ∧ e.key = F.den p.1.1 ∧ e.val = .int .i64 p.1.2 ∧ e.born = p.2 := fun i p hp => by
  obtain ⟨e, h1, h2, h3, h4⟩ := hes i (V p.1.1, iV p.1.2, p.2) (by simp [mapI, hp])
  exact ⟨e, h1, F.val φ p.1.1 _ h2, h3.lit_inv, h4⟩
theorem mapI_all {V : β → AV} {kt : TypeId} (F : KeyF P kt V) {E : List ((β × Int) × Nat)} {ces : Array MapEntry} (hsz : ces.size = E.length) (hent : ∀ (i : Nat) (p : (β × Int) × Nat), E[i]? = some p → ∃ e, ces[i]? = some e ∧ e.key = F.den p.1.1 ∧ e.val = .int .i64 p.1.2 ∧ e.born = p.2) :
    ∀ e ∈ ces.toList, ∃ p, p ∈ E ∧ e.key = F.den p.1.1 := fun e he => by
  obtain ⟨i, hi, he2⟩ := List.getElem_of_mem he
  have hil : i < E.length := by rw [← hsz]; simpa using hi
  obtain ⟨e', h1, h2, _⟩ := hent i E[i] (List.getElem?_eq_getElem hil)
  have : e' = e := by
    rw [← Array.getElem?_toList, List.getElem?_eq_getElem hi, he2] at h1
    exact (Option.some.inj h1).symm
  subst this
  exact ⟨E[i], List.getElem_mem hil, h2⟩
theorem lookI_ok {φ : Fi} {st : St} {w : World} {t kt e : TypeId} {V : β → AV} (K : Maps.Keyed P kt) (F : KeyF P kt V) {b : β} {u : Value} {id clock : Nat} {E : List ((β × Int) × Nat)} (hr : Rel φ st w) (ha : VR φ (.mp id) u)
    (hu : P.underlying t = some (.map kt e)) (hz : ZeroI P e) (hm : st.h.get id = some (.map (mapI V E) clock)) :
    ((∀ p ∈ E, p.1.1 ≠ b) ∧ (Instr.lookup t u (F.den b) true).run P w = .ok (.tuple #[.int .i64 0, .bool false]) w) ∨
    (∃ p ∈ E, p.1.1 = b ∧ (Instr.lookup t u (F.den b) true).run P w = .ok (.tuple #[.int .i64 p.1.2, .bool true]) w) := by
  obtain ⟨rfl, hid⟩ := ha.mp_inv
  obtain ⟨lx, hlx⟩ := F.key b
  obtain ⟨ces, hb, hsz, hes⟩ := hr.obj id _ hm
  have hlen : (mapI V E).length = E.length := by simp [mapI]
  rw [hlen] at hsz
  have hent := mapI_ent F hes
  have hall := mapI_all F hsz hent
  have hfind := K.find w hlx ces.toList fun e he => by
    obtain ⟨p, _, h2⟩ := hall e he
    rw [h2]; exact F.key p.1.1
  rcases hfind with ⟨hrun, hne⟩ | ⟨j, e0, hrun, hj, hje⟩
  · refine .inl ⟨fun p hp hpb => ?_, ?_⟩
    · obtain ⟨i, hi, rfl⟩ := List.getElem_of_mem hp
      obtain ⟨e, h1, h2, _⟩ := hent i E[i] (List.getElem?_eq_getElem hi)
      rw [← Array.getElem?_toList] at h1
      exact hne e (List.mem_of_getElem? h1) (by rw [h2, hpb])
    · simp [Instr.lookup, run_underlying hu, MapKept.run_getObj_map hb, K.check w _ hlx, hrun, hz w, Result.andThen]
  · have hjl : j < E.length := by
      have : j < ces.toList.length := (List.getElem?_eq_some_iff.1 hj).1
      rw [← hsz]; simpa using this
    have hjc : ces[j]? = some e0 := by rw [← Array.getElem?_toList]; exact hj
    obtain ⟨e', k1, k2, k3, k4⟩ := hent j E[j] (List.getElem?_eq_getElem hjl)
    have hee : e' = e0 := by rw [hjc] at k1; exact (Option.some.inj k1).symm
    subst hee
    refine .inr ⟨E[j], List.getElem_mem hjl, F.inj _ _ (by rw [← k2, hje]), ?_⟩
    simp [Instr.lookup, run_underlying hu, MapKept.run_getObj_map hb, K.check w _ hlx, hrun, k3, Result.andThen]
def lookOkAt (ops : Array Oper) (i : Nat) (f : Fm) : Option (TypeId × AV × AV) := match ops[i]? with
  | none => none
  | some o => match wantA ops f.ts o with
    | some true => match o.op with
      | .lookup t m k true => some (t, Operand.av f.ts m, Operand.av f.ts k)
      | _ => none
    | _ => none
theorem nodup_val {E : List ((β × Int) × Nat)} (hn : (E.map (·.1.1)).Nodup) {p q : (β × Int) × Nat} (hp : p ∈ E) (hq : q ∈ E) (h : p.1.1 = q.1.1) : p = q := by
  induction E with
  | nil => cases hp
  | cons x E ih =>
    rw [List.map_cons, List.nodup_cons] at hn
    obtain ⟨h1, h2⟩ := hn
    have hall : ∀ y ∈ E, y.1.1 ≠ x.1.1 := fun y hy e => h1 (List.mem_map.2 ⟨y, hy, e⟩)
    rcases List.mem_cons.1 hp with hpx | hpE
    · rcases List.mem_cons.1 hq with hqx | hqE
      · rw [hpx, hqx]
      · exact absurd (by rw [← h, hpx]) (hall q hqE)
    · rcases List.mem_cons.1 hq with hqx | hqE
      · exact absurd (by rw [h, hqx]) (hall p hpE)
      · exact ih h2 hpE hqE
theorem OpsW.mapLookI (hT : TOk P T) {rd : Option Nat} {ops : Array Oper} {L : Fm → St → Prop} {f : Fm} {st : St} {i : Nat} {l : List Nat} {t kt e : TypeId} {V : β → AV} (K : Maps.Keyed P kt) (F : KeyF P kt V) (b : β) {kv : AV} {id clock : Nat} {E : List ((β × Int) × Nat)} (hn : (E.map (·.1.1)).Nodup)
    (hx : lookOkAt ops i f = some (t, .mp id, kv)) (hkv : Eqv kv (V b)) (hd : mapDE T t = some (kt, e)) (hz : ZeroI P e) (hm : st.h.get id = some (.map (mapI V E) clock))
    (h0 : (∀ p ∈ E, p.1.1 ≠ b) → OpsW P rd ops l L (putAt ops i f (.tup [iV 0, .lit (.bool false)])) st) (h1 : ∀ p ∈ E, p.1.1 = b → OpsW P rd ops l L (putAt ops i f (.tup [iV p.1.2, .lit (.bool true)])) st) : OpsW P rd ops (i :: l) L f st := by
  unfold lookOkAt at hx
  split at hx
  · cases hx
  · rename_i o ho
    split at hx
    · rename_i hw
      split at hx
      · rename_i t' m k hop
        simp only [Option.some.injEq, Prod.mk.injEq] at hx
        obtain ⟨rfl, e2, e3⟩ := hx
        have hput : ∀ v, putAt ops i f v = f.put o.dst v := fun v => by simp [putAt, ho]
        simp only [hput] at h0 h1
        have hρ : ∀ {φ : Fi} {w : World} {a : Act}, ActR φ f a → ∀ x, VR φ (Operand.av f.ts x) (a.eval x) := fun h3 => opR_of h3.ts
        by_cases hin : ∃ p ∈ E, p.1.1 = b
        · obtain ⟨p, hp, hpb⟩ := hin
          refine OpsW.value ho hw (fun c hc => by rw [hop] at hc; cases hc) (fun φ w a h2 h3 => ?_) (h1 p hp hpb)
          have a1 := hρ (w := w) h3 m
          have a2 := hρ (w := w) h3 k
          rw [e2] at a1; rw [e3] at a2
          have a3 := F.val φ b _ (hkv _ _ a2)
          rcases lookI_ok (w := w) K F (b := b) h2 a1 (mapDE_ok hT hd) hz hm with ⟨hno, _⟩ | ⟨q, hq, hqb, hrun⟩
          · exact absurd hpb (hno p hp)
          · obtain rfl := nodup_val hn hp hq (hpb.trans hqb.symm)
            rw [← a3] at hrun
            exact ⟨φ, w, _, .inl (by simp [execOp, hop, hrun, Result.andThen]), .tup (.cons (.lit _) (.cons (.lit _) .nil)), h2, Ext.refl _, Fr.refl _ _ _⟩
        · have hno : ∀ p ∈ E, p.1.1 ≠ b := fun p hp h => hin ⟨p, hp, h⟩
          refine OpsW.value ho hw (fun c hc => by rw [hop] at hc; cases hc) (fun φ w a h2 h3 => ?_) (h0 hno)
          have a1 := hρ (w := w) h3 m
          have a2 := hρ (w := w) h3 k
          rw [e2] at a1; rw [e3] at a2
          have a3 := F.val φ b _ (hkv _ _ a2)
          rcases lookI_ok (w := w) K F (b := b) h2 a1 (mapDE_ok hT hd) hz hm with ⟨_, hrun⟩ | ⟨q, hq, hqb, _⟩
          · rw [← a3] at hrun
            exact ⟨φ, w, _, .inl (by simp [execOp, hop, hrun, Result.andThen]), .tup (.cons (.lit _) (.cons (.lit _) .nil)), h2, Ext.refl _, Fr.refl _ _ _⟩
          · exact absurd hqb (hno q hq)
      · cases hx
    · cases hx
end
end Go.Fz
namespace Go.Fz
open Go.Proofs
set_option maxRecDepth 100000
section
variable {P : Program} {T : Ti} {β : Type} [DecidableEq β]
def putI (E : List ((β × Int) × Nat)) (b : β) (v : Int) (clock : Nat) : List ((β × Int) × Nat) := if b ∈ E.map (·.1.1) then E else E ++ [((b, v), clock)]
def putC (E : List ((β × Int) × Nat)) (b : β) (clock : Nat) : Nat := if b ∈ E.map (·.1.1) then clock else clock + 1
theorem updI_ok {hT : TOk P T} {φ : Fi} {st : St} {w : World} {t kt : TypeId} {V : β → AV} (K : Maps.Keyed P kt) (F : KeyF P kt V) {b : β} {v : Int} {u ku vu : Value} {id clock : Nat} {E : List ((β × Int) × Nat)} (hsame : ∀ p ∈ E, p.1.1 = b → p.1.2 = v) (hr : Rel φ st w) (ha : VR φ (.mp id) u) (hku : VR φ (V b) ku) (hvu : VR φ (iV v) vu)
    (hd : mapD T t = some kt) (hm : st.h.get id = some (.map (mapI V E) clock)) :
    ∃ w', (Instr.mapUpdate t u ku vu).run P w = .ok () w' ∧ Rel φ ⟨st.h.set id (.map (mapI V (putI E b v clock)) (putC E b clock)), st.n⟩ w' ∧ Fr φ st w φ ⟨st.h.set id (.map (mapI V (putI E b v clock)) (putC E b clock)), st.n⟩ w' := by
  obtain ⟨e, hu⟩ := mapD_ok hT hd
  obtain ⟨rfl, hid⟩ := ha.mp_inv
  obtain rfl := hvu.lit_inv
  obtain rfl := F.val φ b ku hku
  obtain ⟨lx, hlx⟩ := F.key b
  obtain ⟨ces, hb, hsz, hes⟩ := hr.obj id _ hm
  have hlen : (mapI V E).length = E.length := by simp [mapI]
  rw [hlen] at hsz
  have hent := mapI_ent F hes
  have hall := mapI_all F hsz hent
  have hfind := K.find w hlx ces.toList fun e he => by
    obtain ⟨p, _, h2⟩ := hall e he
    rw [h2]; exact F.key p.1.1
  have hcheck := K.check w false hlx
  rcases hfind with ⟨hrun, hne⟩ | ⟨j, e0, hrun, hj, hje⟩
  · have hnot : b ∉ E.map (·.1.1) := fun hin => by
      obtain ⟨p, hp, hpb⟩ := List.mem_map.1 hin
      obtain ⟨i, hi, rfl⟩ := List.getElem_of_mem hp
      obtain ⟨e, h1, h2, _⟩ := hent i E[i] (List.getElem?_eq_getElem hi)
      rw [← Array.getElem?_toList] at h1
      exact hne e (List.mem_of_getElem? h1) (by rw [h2, hpb])
    have e1 : putI E b v clock = E ++ [((b, v), clock)] := if_neg hnot
    have e2 : putC E b clock = clock + 1 := if_neg hnot
    rw [e1, e2]
    have := setHeap_ok (o' := .map (mapI V (E ++ [((b, v), clock)])) (clock + 1)) hr hm rfl rfl rfl (.map (ces.push { key := F.den b, val := .int .i64 v, born := clock }) (clock + 1)) (fun w' hw' => ⟨_, hw', by simp [hsz, mapI], fun i x hx => by
      by_cases hi : i < E.length
      · have hx2 : (mapI V E)[i]? = some x := by
          simp only [mapI, List.map_append] at hx ⊢
          rwa [List.getElem?_append_left (by simpa using hi)] at hx
        obtain ⟨e, k1, k2⟩ := hes i x hx2
        exact ⟨e, by rw [Array.getElem?_push_lt (by omega), ← k1, Array.getElem?_eq_getElem (by omega)], k2⟩
      · have hie : i = E.length := by
          have : i < (mapI V (E ++ [((b, v), clock)])).length := (List.getElem?_eq_some_iff.1 hx).1
          simp [mapI] at this; omega
        subst hie
        have hxx : x = (V b, iV v, clock) := by
          simp [mapI] at hx; exact hx.symm
        subst hxx
        exact ⟨{ key := F.den b, val := .int .i64 v, born := clock }, by rw [← hsz]; simp, hku, .lit _, rfl⟩⟩)
    refine ⟨_, ?_, this.1, this.2⟩
    simp [Instr.mapUpdate, run_underlying hu, MapKept.run_getObj_map hb, hcheck, hrun, MapKept.run_setObj_map _ hb, Result.andThen]
  · have hjl : j < E.length := by
      have : j < ces.toList.length := (List.getElem?_eq_some_iff.1 hj).1
      rw [← hsz]; simpa using this
    have hjc : ces[j]? = some e0 := by rw [← Array.getElem?_toList]; exact hj
    obtain ⟨e', k1, k2, k3, k4⟩ := hent j E[j] (List.getElem?_eq_getElem hjl)
    have hee : e' = e0 := by rw [hjc] at k1; exact (Option.some.inj k1).symm
    subst hee
    have hkb : E[j].1.1 = b := F.inj _ _ (by rw [← k2, hje])
    have hval : E[j].1.2 = v := hsame _ (List.getElem_mem hjl) hkb
    rw [hval] at k3
    have hin : b ∈ E.map (·.1.1) := List.mem_map.2 ⟨E[j], List.getElem_mem hjl, hkb⟩
    have e1 : putI E b v clock = E := if_pos hin
    have e2 : putC E b clock = clock := if_pos hin
    rw [e1, e2]
    have := setHeap_ok (o' := .map (mapI V E) clock) hr hm rfl rfl rfl (.map (ces.modify j fun e => { e with key := F.den b, val := .int .i64 v }) clock) (fun w' hw' => ⟨_, hw', by simp [hsz, hlen], fun i x hx => by
      by_cases hi : i = j
      · subst hi
        obtain ⟨e, q1, q2, q3, q4⟩ := hes i x hx
        have : e = e' := by rw [hjc] at q1; exact (Option.some.inj q1).symm
        subst this
        refine ⟨{ e with key := F.den b, val := .int .i64 v }, by simp [Array.getElem?_modify, hjc], ?_, ?_, q4⟩
        · show VR φ x.1 (F.den b)
          rw [← hje]; exact q2
        · show VR φ x.2.1 (.int .i64 v)
          rw [← k3]; exact q3
      · obtain ⟨e, q1, q2⟩ := hes i x hx
        exact ⟨e, by simp [Array.getElem?_modify, Ne.symm hi, q1], q2⟩⟩)
    refine ⟨_, ?_, this.1, this.2⟩
    have hstay := K.stays w hlx
    simp [Instr.mapUpdate, run_underlying hu, MapKept.run_getObj_map hb, hcheck, hrun, hjc, hje, hstay, MapKept.run_setObj_map _ hb, Result.andThen]
theorem OpsW.mapUpdI (hT : TOk P T) {rd : Option Nat} {ops : Array Oper} {L : Fm → St → Prop} {f : Fm} {st : St} {i : Nat} {l : List Nat} {t kt : TypeId} {V : β → AV} (K : Maps.Keyed P kt) (F : KeyF P kt V) {b : β} {v : Int} {id clock : Nat} {E : List ((β × Int) × Nat)} (hsame : ∀ p ∈ E, p.1.1 = b → p.1.2 = v)
    (hx : updAt ops i f = some (t, .mp id, V b, iV v)) (hd : mapD T t = some kt) (hm : st.h.get id = some (.map (mapI V E) clock))
    (h : OpsW P rd ops l L (putAt ops i f undA) ⟨st.h.set id (.map (mapI V (putI E b v clock)) (putC E b clock)), st.n⟩) : OpsW P rd ops (i :: l) L f st := by
  unfold updAt at hx
  split at hx
  · cases hx
  · rename_i o ho
    split at hx
    · rename_i hw
      split at hx
      · rename_i t' m k v' hop
        simp only [Option.some.injEq, Prod.mk.injEq] at hx
        obtain ⟨rfl, e2, e3, e4⟩ := hx
        have hput : ∀ v, putAt ops i f v = f.put o.dst v := fun v => by simp [putAt, ho]
        rw [hput] at h
        refine OpsW.value ho hw (fun c hc => by rw [hop] at hc; cases hc) (fun φ w a h2 h3 => ?_) h
        have hρ := opR_of h3.ts
        have a1 := hρ m
        have a2 := hρ k
        have a3 := hρ v'
        rw [e2] at a1; rw [e3] at a2; rw [e4] at a3
        obtain ⟨w', k2, k3, k4⟩ := updI_ok (hT := hT) K F hsame h2 a1 a2 a3 hd hm
        exact ⟨φ, w', undef, .inr ⟨by simp [execOp, hop, k2, Result.andThen], rfl⟩, .lit _, k3, Ext.refl _, k4⟩
      · cases hx
    · cases hx
end
def inF (p : Int × Int × Int × Int) : Bool := decide (0 ≤ p.1) && decide (p.1 ≤ 1000000) && decide (0 ≤ p.2.1) && decide (p.2.1 ≤ 1000000) && decide (0 ≤ p.2.2.1) && decide (p.2.2.1 ≤ 1000000) && decide (0 ≤ p.2.2.2) && decide (p.2.2.2 ≤ 1000000)
abbrev FK := { p : Int × Int × Int × Int // inF p = true }
def fkV (p : FK) : AV := .agg [iV p.1.1, iV p.1.2.1, iV p.1.2.2.1, iV p.1.2.2.2]
theorem fkV_below (p : FK) : Below 0 (fkV p) := Below.agg (AllB.ok ⟨Below.lit, Below.lit, Below.lit, Below.lit, trivial⟩)
theorem keyed167 : Maps.Keyed Try.prog 167 := Maps.Keyed.of_law (deep_law_laid (m := 3) laid (by omega) (lt_of_ble (by kernel_rfl)) (by kernel_rfl) (by kernel_rfl))
theorem keyOf_four {P : Program} {t e : TypeId} {d : Nat} (hu : P.underlying t = some (.array 4 e)) (hsz : P.types.size = d + 1) (he : P.underlying e = some (.int .i64)) (c1 : P.cellsOf t = 4) (c3 : P.cellsOf e = 1) (k1 : P.keyType t = true) {a b c f : Int}
    (ha : (Lit.int .i64 a).wf = true) (hb : (Lit.int .i64 b).wf = true) (hc : (Lit.int .i64 c).wf = true) (hf : (Lit.int .i64 f).wf = true) : ∃ l, keyOf P t (.agg #[.int .i64 a, .int .i64 b, .int .i64 c, .int .i64 f]) = some l := by
  have f1' : Value.formed P t (.agg #[.int .i64 a, .int .i64 b, .int .i64 c, .int .i64 f]) = true := by simp [Value.formed, hu, c1]
  have hl : ∀ x : Int, (Lit.int .i64 x).wf = true → P.keyLits (d + 1) e [.int .i64 x] = some [.int .i64 x] := fun x hx => by
    unfold Program.keyLits
    rw [he]
    simp [hx]
  have hk : P.keyLits (P.types.size + 1) t [.int .i64 a, .int .i64 b, .int .i64 c, .int .i64 f] = some [.int .i64 a, .int .i64 b, .int .i64 c, .int .i64 f] := by
    rw [hsz]
    unfold Program.keyLits
    rw [hu]
    simp only [List.length_cons, List.length_nil, c1]
    rw [if_pos trivial]
    simp [List.range, List.range.loop, c3, hl a ha, hl b hb, hl c hc, hl f hf]
  refine ⟨.string (keyBytes [.int .i64 a, .int .i64 b, .int .i64 c, .int .i64 f]), ?_⟩
  unfold keyOf
  rw [hu]
  simp only [k1, f1', Bool.and_true, if_true]
  show Option.map _ (P.keyLits _ t [.int .i64 a, .int .i64 b, .int .i64 c, .int .i64 f]) = _
  rw [hk]; rfl
theorem fk_key {a b c f : Int} (ha : (Lit.int .i64 a).wf = true) (hb : (Lit.int .i64 b).wf = true) (hc : (Lit.int .i64 c).wf = true) (hf : (Lit.int .i64 f).wf = true) : ∃ l, keyOf Try.prog 167 (.agg #[.int .i64 a, .int .i64 b, .int .i64 c, .int .i64 f]) = some l :=
  keyOf_four (e := 3) (d := 207) Try.underlying167 (by kernel_rfl) Try.underlying3 (by kernel_rfl) (by kernel_rfl) (by kernel_rfl) ha hb hc hf
def fkKey : KeyF Try.prog 167 fkV where
  den p := .agg #[.int .i64 p.1.1, .int .i64 p.1.2.1, .int .i64 p.1.2.2.1, .int .i64 p.1.2.2.2]
  val φ b u h := by
    obtain ⟨us, rfl, h1⟩ := h.agg_inv
    match us, h1 with
    | [_, _, _, _], .cons h1 (.cons h2 (.cons h3 (.cons h4 .nil))) => rw [h1.lit_inv, h2.lit_inv, h3.lit_inv, h4.lit_inv]
  key b := by
    obtain ⟨b, h⟩ := b
    simp only [inF, Bool.and_eq_true, decide_eq_true_eq] at h
    exact fk_key (wf64 h.1.1.1.1.1.1.1 h.1.1.1.1.1.1.2) (wf64 h.1.1.1.1.1.2 h.1.1.1.1.2) (wf64 h.1.1.1.2 h.1.1.2) (wf64 h.1.2 h.2)
  inj b c h := by
    obtain ⟨⟨b0, b1, b2, b3⟩, _⟩ := b
    obtain ⟨⟨c0, c1, c2, c3⟩, _⟩ := c
    simp at h
    simp [h]
theorem zeroI3 : ZeroI Try.prog 3 := fun w => by
  have h : (Try.prog.info? 3).bind (fun t => t.zero) = some (.int .i64 0) := by kernel_rfl
  obtain ⟨ti, h1, h2⟩ := Option.bind_eq_some_iff.1 h
  simp [zeroValue, typeInfo, Sem.run_bind, program, Sem.run, Result.andThen, h1, h2]
end Go.Fz
namespace Go.Fz
open Go.Proofs
set_option maxRecDepth 100000
set_option maxHeartbeats 8000000 in
theorem en_round1 (g : FuncId) (p q u : Int) (hof : Pure Try.prog g [.agg [iV p, iV q]] (iV u)) (ME : List (AV × AV × Nat)) (cl : Nat) (S : List Nat) (m : Nat) (hm : m < 100000) (fl : Nat → Int) (G : List AV) (hG : G = flatG 1 (intC fl) (m + 1)) :
    YieldW Try.prog 6 [.agg [iV p, iV q]] ⟨(9, .cells none false [iV p, iV q]) :: (7, .iter 0 cl S cl) :: enH g ME cl (.sl 8 0 (m + 1) 1 false) ++ [(8, .cells none false G)], 10⟩
      (fun v st' => v = .lit (.bool true) ∧ ∃ o8, st' = ⟨(12, .cells (some 8) false (G ++ [iV u])) :: (11, .cells none false [iV u]) :: (10, .cells none false [iV p, iV q]) :: (9, .cells none false [iV p, iV q]) :: (7, .iter 0 cl S cl) :: enH g ME cl (.sl 12 0 (m + 1 + 1) 1 false) ++ [(8, o8)], 13⟩) := by
  obtain ⟨O, hO⟩ : ∃ O : Ar, O = std := ⟨_, rfl⟩
  refine YieldW.of_round (r := enR) rfl rfl ?_
  refine SW.run tok hO (by cbv <;> rfl) (by trivial) ?_
  refine ⟨enR, rfl, rfl, SW.block ?_⟩
  obtain ⟨RB, hRB⟩ : ∃ r, r = ({ enR with state := .busy } : ALoop) := ⟨_, rfl⟩
  rw [← hRB]
  refine SW.runD tok mixed hO (by rfl) (by cbv <;> rfl) (by trivial) ?_
  refine AnyE.callP hof (by cbv <;> rfl) (by cbv <;> rfl) ?_
  refine AnyE.run tok hO (by rfl) (by cbv <;> rfl) (by trivial) ?_
  refine AnyE.effK tok hO (by cbv <;> rfl) (by cbv <;> rfl) (by trivial) ?_ ?_
  · exact (by repeat (first | exact trivial | refine And.intro (by first | exact lv_of hO (by cbv <;> rfl) (by trivial) | (cbv <;> rfl)) ?_))
  refine AnyE.run tok hO (by rfl) (by cbv <;> rfl) (by trivial) ?_
  refine AnyE.appOne (g := intC fl) (len := m + 1) tok (by cbv <;> rfl) (by cbv <;> rfl) (by rfl) (by rfl) hG (by kernel_rfl) (by rfl) (by rfl) (by omega) fun G' hG' => ?_
  refine AnyE.run tok hO (by rfl) (by cbv <;> rfl) (by trivial) ?_
  refine AnyE.eff tok hO (by cbv <;> rfl) (by cbv <;> rfl) (by trivial) ?_
  refine AnyE.done (by rfl) ?_
  rw [← hG] at hG'
  subst hG'
  subst hRB
  exact ⟨_, rfl, rfl, _, rfl⟩
def vsL (val : PK → Int) (x : List (PK × Nat)) (i : Nat) : Int := (x.map fun p => val p.1).getD i 0
theorem vsL_snoc (val : PK → Int) (x : List (PK × Nat)) (p : PK × Nat) : flatG 1 (intC (vsL val x)) x.length ++ [iV (val p.1)] = flatG 1 (intC (vsL val (x ++ [p]))) (x.length + 1) := by
  have h1 : flatG 1 (intC (vsL val (x ++ [p]))) x.length = flatG 1 (intC (vsL val x)) x.length := flatG_congr fun i k hi => by
    show iV (vsL val (x ++ [p]) i) = iV (vsL val x i)
    unfold vsL
    rw [List.map_append, List.getD_eq_getElem?_getD, List.getElem?_append_left (by simpa using hi), ← List.getD_eq_getElem?_getD]
  have h2 : vsL val (x ++ [p]) x.length = val p.1 := by unfold vsL; simp
  show _ = flatG 1 (intC (vsL val (x ++ [p]))) x.length ++ [iV (vsL val (x ++ [p]) x.length)]
  rw [h1, h2]
theorem enR_ren (m : Nat) : RenO (ren1 8 m) 9 (.loop enR) (.loop enR) :=
  .loop rfl rfl rfl rfl rfl rfl (by show 5 < 9; omega) rfl (RenV.getT (l := enL) ⟨RenV.ptr (by omega), RenV.ptr (by omega), RenV.ptr (by omega), RenV.fn .nil (.cons (RenV.ptr (by omega)) .nil), trivial⟩)
set_option maxHeartbeats 16000000 in
theorem keys99 (g : FuncId) (val : PK → Int) (E : List (PK × Nat)) (cl : Nat) (hb : BornG E cl) (hE : E.length < 100000) (hof : ∀ p ∈ E, Pure Try.prog g [pkV p.1] (iV (val p.1))) (K : AV → St → Prop)
    (hK : ∀ (x : List (PK × Nat)) (it : AObj), it.fam = none → x.length ≤ E.length → (∀ p ∈ x, p ∈ E) → (∀ p ∈ E, p ∈ x) → K (.tup []) ⟨(7, it) :: enH g (mapE pkV E) cl (slG 8 1 x.length) ++ objG 8 1 (intC (vsL val x)) x.length, 9⟩) :
    CallW Try.prog 99 [.yld 6, .ptr 1 0] ⟨enH g (mapE pkV E) cl nl3, 7⟩ K := by
  obtain ⟨O, hO⟩ : ∃ O : Ar, O = std := ⟨_, rfl⟩
  have hes : ∀ x ∈ mapE pkV E, ∃ p ∈ E, x = (pkV p.1, .lit (.bool true), p.2) := fun x hx => by
    obtain ⟨p, hp, rfl⟩ := List.mem_map.1 hx
    exact ⟨p, hp, rfl⟩
  have hborn : ((mapE pkV E).all (fun x => Nat.blt x.2.2 cl) && Nat.ble cl cl) = true := by
    rw [Bool.and_eq_true]
    refine ⟨List.all_eq_true.2 fun x hx => ?_, by rw [Nat.ble_eq]; exact Nat.le_refl _⟩
    obtain ⟨p, hp, rfl⟩ := hes x hx
    show Nat.ble _ _ = true
    rw [Nat.ble_eq]
    exact hb.1 p hp
  have hmap : (mapE pkV E).map (fun x => x.2.2) = E.map (·.2) := by simp [mapE, List.map_map, Function.comp_def]
  have hborn2 : (Nat.beq cl cl && bornsOk (mapE pkV E)) = true := by
    rw [Nat.beq_refl, Bool.true_and]
    unfold bornsOk
    rw [hmap]
    exact decide_eq_true hb.2
  have hclosed : ∀ x ∈ mapE pkV E, Below 0 x.1 ∧ Below 0 x.2.1 := fun x hx => by
    obtain ⟨p, _, rfl⟩ := hes x hx
    exact ⟨pkV_below _, Below.lit⟩
  have hlenE : (mapE pkV E).length = E.length := by simp [mapE]
  have hmemE : ∀ p ∈ E, (pkV p.1, AV.lit (.bool true), p.2) ∈ mapE pkV E := fun p hp => List.mem_map.2 ⟨p, hp, rfl⟩
  obtain ⟨ME, hME⟩ : ∃ m, mapE pkV E = m := ⟨_, rfl⟩
  rw [hME] at hes hborn hborn2 hmap hclosed hlenE hmemE hK ⊢
  refine callW_of_body tok Try.func99 rfl ?_
  refine SW.seq (SW.runN tok hO 1 (by cbv <;> rfl) (by trivial) ?_)
  refine OpsW.range tok (kt := 121) (by cbv <;> rfl) (by kernel_rfl) (by rfl) ?_
  refine OpsW.nil ?_
  refine (SW.block (SW.loopR (fun _ : List (PK × Nat) => ⟨⟨14, getT [(0, .yld 6), (1, .ptr 1 0), (5, .ptr 7 0)]⟩, []⟩) (fun x => ⟨(7, .iter 0 cl (x.map (·.2)) cl) :: enH g ME cl (slG 8 1 x.length) ++ objG 8 1 (intC (vsL val x)) x.length, 9⟩)
    (fun x => (ME.filter fun y => !((x.map (·.2)).contains y.2.2)).length) (fun x => (∀ p ∈ x, p ∈ E) ∧ (ME.filter fun y => !((x.map (·.2)).contains y.2.2)).length + x.length ≤ E.length) [] ⟨(fun _ h => nomatch h), by have := List.length_filter_le (fun y : AV × AV × Nat => !((([] : List (PK × Nat)).map (·.2)).contains y.2.2)) ME; rw [List.length_nil]; omega⟩ (ren1 8 8) ?_ fun x hx => ?_))
  · exact WeakR.up rfl rfl (by simp) (Nat.le_refl _) (.inl rfl) (by show 8 ≤ 9; omega) ⟨RenV.yld (by omega), RenV.ptr (by omega), RenV.ptr (by omega), trivial⟩
      ⟨⟨by omega, _, rfl, .iter (by omega), .inr rfl⟩, ⟨by omega, _, rfl, enR_ren 8, .inr rfl⟩, ⟨by omega, _, rfl, .dfr, .inr rfl⟩, ⟨by omega, _, rfl, .cells (.cons (RenV.closed Below.lit) .nil), .inr rfl⟩, ⟨by omega, _, rfl, .cells (.cons (RenV.closed Below.lit) (.cons (RenV.closed Below.lit) .nil)), .inr rfl⟩,
        ⟨by omega, _, rfl, .cells (.cons (RenV.closed (Below.fn (fun _ h => nomatch h) (fun _ h => nomatch h))) .nil), .inr rfl⟩, ⟨by omega, _, rfl, .cells (.cons (RenV.mp (by omega)) .nil), .inr rfl⟩, ⟨by omega, _, rfl, .map hclosed, .inr rfl⟩, trivial⟩ (fun p hp => by cases hp)
  obtain ⟨hx, hmeas⟩ := hx
  have hxl : x.length ≤ E.length := by omega
  obtain ⟨S, hS⟩ : ∃ s, x.map (·.2) = s := ⟨_, rfl⟩
  have hend : (ME.filter fun y => !(S.contains y.2.2)) = [] → ∀ p ∈ E, p ∈ x := fun hend p hp => by
    have hin : p.2 ∈ S := by
      have := List.filter_eq_nil_iff.1 hend _ (hmemE p hp)
      simpa using this
    rw [← hS] at hin
    obtain ⟨q, hq, hqp⟩ := List.mem_map.1 hin
    have h5 : q ∈ E.filter (fun y => Nat.beq y.2 p.2) := List.mem_filter.2 ⟨hx q hq, by show Nat.beq q.2 p.2 = true; rw [hqp]; exact Nat.beq_refl _⟩
    rw [filter_one' (g := fun y : PK × Nat => y.2) hb.2 hp, List.mem_singleton] at h5
    rw [← h5]; exact hq
  have hnext : ∀ p ∈ E, S.contains p.2 = false → (ME.filter fun y => !(((x ++ [p]).map (·.2)).contains y.2.2)).length < (ME.filter fun y => !((x.map (·.2)).contains y.2.2)).length := fun p hp hn => by
    refine filter_lt (p := (pkV p.1, AV.lit (.bool true), p.2)) (fun q h => ?_) (hmemE p hp) ?_ ?_
    · simp at h ⊢; exact h.1
    · show (!(x.map (·.2)).contains p.2) = true
      rw [hS, hn]; rfl
    · show (!((x ++ [p]).map (·.2)).contains p.2) = false
      simp
  have hinv : ∀ p ∈ E, S.contains p.2 = false → (∀ q ∈ x ++ [p], q ∈ E) ∧ (ME.filter fun y => !(((x ++ [p]).map (·.2)).contains y.2.2)).length + (x ++ [p]).length ≤ E.length := fun p hp hn => by
    refine ⟨fun q hq => ?_, ?_⟩
    · rcases List.mem_append.1 hq with hq | hq
      · exact hx q hq
      · rw [List.mem_singleton.1 hq]; exact hp
    · have := hnext p hp hn
      rw [List.length_append, List.length_singleton]; omega
  have hSx : ∀ p : PK × Nat, (x ++ [p]).map (·.2) = S ++ [p.2] := fun p => by rw [List.map_append, hS]; rfl
  have hxp : ∀ p : PK × Nat, (x ++ [p]).length = x.length + 1 := fun p => by rw [List.length_append, List.length_singleton]
  have hsn := vsL_snoc val x
  rw [hS]
  cases hn : x.length with
  | zero =>
    obtain rfl : x = [] := List.length_eq_zero_iff.1 hn
    have hS0 : S = [] := hS.symm
    refine SW.seq (SW.runN tok hO 0 (by cbv <;> rfl) (by trivial) ?_)
    refine OpsW.nextL (a := .ptr 7 0) (by cbv <;> rfl) (by rfl) (by rfl) hborn (fun he => ?_) (fun y hy hny => ?_)
    · refine OpsW.run tok hO (by cbv <;> rfl) (by trivial) ?_
      refine SW.seq (SW.cond (t := false) (by cbv <;> rfl) (SW.exit ?_))
      exact ⟨_, _, rfl, rfl, hK [] _ rfl hxl hx (hend he)⟩
    · obtain ⟨p, hp, rfl⟩ := hes y hy
      have hfil : ME.filter (fun x => Nat.beq x.2.2 p.2) = [(pkV p.1, .lit (.bool true), p.2)] := filter_one' (g := fun x : AV × AV × Nat => x.2.2) (x := (pkV p.1, .lit (.bool true), p.2)) (by rw [hmap]; exact hb.2) hy
      have hof' := hof p hp
      have hnx := hnext p hp hny
      rw [hS] at hnx
      have hin := hinv p hp hny
      have hsn := hsn p
      have hSx := hSx p
      have hxp := hxp p
      obtain ⟨⟨⟨a, b⟩, hab⟩, born⟩ := p
      obtain ⟨u, hu⟩ : ∃ u, val ⟨(a, b), hab⟩ = u := ⟨_, rfl⟩
      simp only [hu] at hof' hsn
      obtain ⟨S2, hS2⟩ : ∃ s, S ++ [born] = s := ⟨_, rfl⟩
      show OpsW _ _ _ _ _ _ ⟨(7, .iter 0 cl (S ++ [born]) cl) :: enH g ME cl nl3, 9⟩
      rw [hS2]
      refine OpsW.run tok hO (by cbv <;> rfl) (by trivial) ?_
      refine SW.seq (SW.cond (t := true) (by cbv <;> rfl) (SW.skip ?_))
      refine SW.block ?_
      refine SW.seq (SW.runN tok hO 0 (by cbv <;> rfl) (by trivial) ?_)
      have hlast : S2.getLast? = some born := by rw [← hS2]; simp
      refine OpsW.entryL (a := .ptr 7 0) (by cbv <;> rfl) (by rfl) (by rfl) hlast hborn2 hfil ?_
      refine OpsW.run tok hO (by cbv <;> rfl) (by trivial) ?_
      refine SW.seq (SW.runN tok hO 2 (by cbv <;> rfl) (by trivial) ?_)
      refine OpsW.apply (c := .yld 6) (args := [.agg [iV a, iV b]]) (by cbv <;> rfl) (en_round0 g a b u hof' ME cl (.iter 0 cl S2 cl)) fun v st' hv => ?_
      obtain ⟨rfl, rfl⟩ := hv
      refine OpsW.run tok hO (by cbv <;> rfl) (by trivial) ?_
      refine SW.cond (t := false) (by cbv <;> rfl) (SW.skip ?_)
      refine ⟨[(⟨(a, b), hab⟩, born)], hnx, hin, ren1 8 12, ?_⟩
      have e1 : ([(⟨(a, b), hab⟩, born)] : List (PK × Nat)).map (·.2) = S2 := by rw [← hS2, hS0]; rfl
      rw [e1]
      refine WeakR.up rfl rfl (by simp) (Nat.le_refl _) (.inr (by omega)) (by show 8 ≤ 9; omega) ⟨RenV.yld (by omega), RenV.ptr (by omega), RenV.ptr (by omega), trivial⟩
        ⟨⟨by omega, _, rfl, .iter (by omega), .inr rfl⟩, ⟨by omega, _, rfl, enR_ren 12, .inr rfl⟩, ⟨by omega, _, rfl, .dfr, .inr rfl⟩, ⟨by omega, _, rfl, .cells (.cons (RenV.sl (by omega)) .nil), .inr rfl⟩, ⟨by omega, _, rfl, .cells (.cons (RenV.closed Below.lit) (.cons (RenV.closed Below.lit) .nil)), .inr rfl⟩,
          ⟨by omega, _, rfl, .cells (.cons (RenV.closed (Below.fn (fun _ h => nomatch h) (fun _ h => nomatch h))) .nil), .inr rfl⟩, ⟨by omega, _, rfl, .cells (.cons (RenV.mp (by omega)) .nil), .inr rfl⟩, ⟨by omega, _, rfl, .map hclosed, .inr rfl⟩, trivial⟩ (fun p hp => ?_)
      obtain rfl := objG_mem hp
      exact ⟨by omega, _, rfl, .cells (RenVs.of_eq hsn (flatG_below (fun _ _ => Below.lit) _)), .inl rfl⟩
  | succ m =>
    obtain ⟨G, hG⟩ : ∃ G, G = flatG 1 (intC (vsL val x)) (m + 1) := ⟨_, rfl⟩
    show SW _ _ _ _ _ ⟨(7, .iter 0 cl S cl) :: enH g ME cl (.sl 8 0 (m + 1) 1 false) ++ [(8, .cells none false (flatG 1 (intC (vsL val x)) (m + 1)))], 9⟩
    rw [← hG]
    refine SW.seq (SW.runN tok hO 0 (by cbv <;> rfl) (by trivial) ?_)
    refine OpsW.nextL (a := .ptr 7 0) (by cbv <;> rfl) (by rfl) (by rfl) hborn (fun he => ?_) (fun y hy hny => ?_)
    · refine OpsW.run tok hO (by cbv <;> rfl) (by trivial) ?_
      refine SW.seq (SW.cond (t := false) (by cbv <;> rfl) (SW.exit ?_))
      have hk := hK x (.iter 0 cl S cl) rfl hxl hx (hend he)
      rw [hn] at hk
      rw [hG]
      exact ⟨_, _, rfl, rfl, hk⟩
    · obtain ⟨p, hp, rfl⟩ := hes y hy
      have hfil : ME.filter (fun x => Nat.beq x.2.2 p.2) = [(pkV p.1, .lit (.bool true), p.2)] := filter_one' (g := fun x : AV × AV × Nat => x.2.2) (x := (pkV p.1, .lit (.bool true), p.2)) (by rw [hmap]; exact hb.2) hy
      have hof' := hof p hp
      have hnx := hnext p hp hny
      rw [hS] at hnx
      have hin := hinv p hp hny
      have hsn := hsn p
      have hSx := hSx p
      have hxp := hxp p
      rw [hn] at hsn hxp
      rw [← hG] at hsn
      obtain ⟨⟨⟨a, b⟩, hab⟩, born⟩ := p
      obtain ⟨u, hu⟩ : ∃ u, val ⟨(a, b), hab⟩ = u := ⟨_, rfl⟩
      simp only [hu] at hof' hsn
      obtain ⟨S2, hS2⟩ : ∃ s, S ++ [born] = s := ⟨_, rfl⟩
      show OpsW _ _ _ _ _ _ ⟨(7, .iter 0 cl (S ++ [born]) cl) :: enH g ME cl (.sl 8 0 (m + 1) 1 false) ++ [(8, .cells none false G)], 9⟩
      rw [hS2]
      refine OpsW.run tok hO (by cbv <;> rfl) (by trivial) ?_
      refine SW.seq (SW.cond (t := true) (by cbv <;> rfl) (SW.skip ?_))
      refine SW.block ?_
      refine SW.seq (SW.runN tok hO 0 (by cbv <;> rfl) (by trivial) ?_)
      have hlast : S2.getLast? = some born := by rw [← hS2]; simp
      refine OpsW.entryL (a := .ptr 7 0) (by cbv <;> rfl) (by rfl) (by rfl) hlast hborn2 hfil ?_
      refine OpsW.run tok hO (by cbv <;> rfl) (by trivial) ?_
      refine SW.seq (SW.runN tok hO 2 (by cbv <;> rfl) (by trivial) ?_)
      refine OpsW.apply (c := .yld 6) (args := [.agg [iV a, iV b]]) (by cbv <;> rfl) (en_round1 g a b u hof' ME cl S2 m (by omega) (vsL val x) G hG) fun v st' hv => ?_
      obtain ⟨rfl, o8, rfl⟩ := hv
      obtain ⟨G2, hG2⟩ : ∃ G2, G ++ [iV u] = G2 := ⟨_, rfl⟩
      rw [hG2]
      refine OpsW.run tok hO (by cbv <;> rfl) (by trivial) ?_
      refine SW.cond (t := false) (by cbv <;> rfl) (SW.skip ?_)
      refine ⟨x ++ [(⟨(a, b), hab⟩, born)], hnx, hin, ren1 8 12, ?_⟩
      rw [hSx, hS2, hxp]
      refine WeakR.up rfl rfl (by simp) (Nat.le_refl _) (.inr (by omega)) (by show 8 ≤ 9; omega) ⟨RenV.yld (by omega), RenV.ptr (by omega), RenV.ptr (by omega), trivial⟩
        ⟨⟨by omega, _, rfl, .iter (by omega), .inr rfl⟩, ⟨by omega, _, rfl, enR_ren 12, .inr rfl⟩, ⟨by omega, _, rfl, .dfr, .inr rfl⟩, ⟨by omega, _, rfl, .cells (.cons (RenV.sl (by omega)) .nil), .inr rfl⟩, ⟨by omega, _, rfl, .cells (.cons (RenV.closed Below.lit) (.cons (RenV.closed Below.lit) .nil)), .inr rfl⟩,
          ⟨by omega, _, rfl, .cells (.cons (RenV.closed (Below.fn (fun _ h => nomatch h) (fun _ h => nomatch h))) .nil), .inr rfl⟩, ⟨by omega, _, rfl, .cells (.cons (RenV.mp (by omega)) .nil), .inr rfl⟩, ⟨by omega, _, rfl, .map hclosed, .inr rfl⟩, trivial⟩ (fun p hp => ?_)
      obtain rfl := objG_mem hp
      exact ⟨by omega, _, rfl, .cells (RenVs.of_eq (hG2.symm.trans hsn) (flatG_below (fun _ _ => Below.lit) _)), .inl rfl⟩
end Go.Fz
namespace Go.Fz
open Go.Proofs
set_option maxRecDepth 100000
set_option maxHeartbeats 16000000 in
theorem ends59_core (g : FuncId) (val : PK → Int) (E : List (PK × Nat)) (cl : Nat) (hb : BornG E cl) (hE : E.length < 100000) (hof : ∀ p ∈ E, Pure Try.prog g [pkV p.1] (iV (val p.1))) (lo hi : Int)
    (hlo : ∃ p ∈ E, val p.1 = lo) (hlo' : ∀ p ∈ E, lo ≤ val p.1) (hhi : ∃ p ∈ E, val p.1 = hi) (hhi' : ∀ p ∈ E, val p.1 ≤ hi) :
    CallW Try.prog 59 [.fn (.func 99) [] [.ptr 1 0], .fn (.func g) [] []] (roM (mapE pkV E) cl) (fun v st' => st'.h.get 0 = some (.map (mapE pkV E) cl) ∧ freeB st'.h not01 = true ∧ Eqv (frz st'.h not01 3 v) (rangeV lo hi)) := by
  obtain ⟨O, hO⟩ : ∃ O : Ar, O = std := ⟨_, rfl⟩
  obtain ⟨ME, hME⟩ : ∃ m, mapE pkV E = m := ⟨_, rfl⟩
  have hkeys := keys99 g val E cl hb hE hof
  rw [hME] at hkeys ⊢
  refine callW_of_body tok Try.func59 rfl ?_
  refine SW.seqRun tok hO (by cbv <;> rfl) (by trivial) ?_
  refine SW.seqRun tok hO (by cbv <;> rfl) (by trivial) ?_
  refine SW.seq ?_
  refine SW.seqRun tok hO (by cbv <;> rfl) (by trivial) ?_
  refine SW.block ?_
  refine SW.pre (f2 := ⟨⟨24, getT enL⟩, []⟩) (st2 := ⟨[(4, .cells none false [nl3]), (3, .cells none false [iV 0, iV 0]), (2, .cells none false [.fn (.func g) [] []]), (1, .cells none true [.mp 0]), (0, .map ME cl)], 5⟩) ?_ ?_
  · exact Weak.by rfl rfl (fun _ h => nomatch h) (Nat.le_refl _) (Nat.le_refl _) ⟨⟨rfl, .inl rfl⟩, ⟨rfl, .inl rfl⟩, ⟨rfl, .inl rfl⟩, ⟨rfl, .inl rfl⟩, trivial⟩ ⟨⟨rfl, by show _ < 5; omega, .inl rfl⟩, ⟨rfl, by show _ < 5; omega, .inl rfl⟩, ⟨rfl, by show _ < 5; omega, .inl rfl⟩, ⟨rfl, by show _ < 5; omega, .inl rfl⟩, ⟨rfl, by show _ < 5; omega, .inl rfl⟩, trivial⟩
  refine SW.rangeFunc (gf := 99) (first := []) (caps := [.ptr 1 0]) (by rfl) en99 ?_
  refine (show CallW Try.prog 99 [.yld 6, .ptr 1 0] ⟨enH g ME cl nl3, 7⟩ _ from hkeys _ fun x it hit hxl hx hcov => ?_)
  refine ⟨enR, rfl, (fun h => by simp [enR] at h), ?_⟩
  have hne : x.length ≠ 0 := fun h => by
    obtain ⟨p, hp, _⟩ := hlo
    have := hcov p hp
    rw [List.length_eq_zero_iff.1 h] at this
    cases this
  have hlen : x.length < 100000 := by omega
  have hmem : ∀ i, i < x.length → ∃ p ∈ E, vsL val x i = val p.1 := fun i hi => ⟨x[i], hx _ (List.getElem_mem hi), by unfold vsL; simp [hi]⟩
  have hcv : ∀ p ∈ E, ∃ i, i < x.length ∧ vsL val x i = val p.1 := fun p hp => by
    obtain ⟨i, hi, he⟩ := List.getElem_of_mem (hcov p hp)
    exact ⟨i, hi, by unfold vsL; simp [hi, he]⟩
  generalize vsL val x = V at hmem hcv ⊢
  generalize x.length = N at hne hlen hmem hcv ⊢
  obtain ⟨m, rfl⟩ : ∃ m, N = m + 1 := ⟨N - 1, by omega⟩
  obtain ⟨G, hG⟩ : ∃ G, G = flatG 1 (intC V) (m + 1) := ⟨_, rfl⟩
  show SW Try.prog none _ _ ⟨⟨24, getT enL⟩, [5]⟩ ⟨(7, it) :: (6, .loop { enR with state := .exhausted }) :: (5, .dfr) :: (4, .cells none false [.sl 8 0 (m + 1) 1 false]) :: (3, .cells none false [iV 0, iV 0]) :: (2, .cells none false [.fn (.func g) [] []]) :: (1, .cells none true [.mp 0]) :: (0, .map ME cl) :: [(8, .cells none false (flatG 1 (intC V) (m + 1)))], 9⟩
  rw [← hG]
  refine SW.pre (f2 := ⟨⟨24, getT [(4, .ptr 3 0), (5, .ptr 4 0)]⟩, [5]⟩) (st2 := ⟨[(8, .cells none false G), (5, .dfr), (4, .cells none false [.sl 8 0 (m + 1) 1 false]), (3, .cells none false [iV 0, iV 0]), (1, .cells none true [.mp 0]), (0, .map ME cl)], 9⟩) ?_ ?_
  · exact Weak.by rfl rfl (by simp) (Nat.le_refl _) (Nat.le_refl _) ⟨⟨rfl, .inl rfl⟩, ⟨rfl, .inl rfl⟩, trivial⟩ ⟨⟨rfl, by show _ < 9; omega, .inl rfl⟩, ⟨rfl, by show _ < 9; omega, .inl rfl⟩, ⟨rfl, by show _ < 9; omega, .inl rfl⟩, ⟨rfl, by show _ < 9; omega, .inl rfl⟩, ⟨rfl, by show _ < 9; omega, .inl rfl⟩, ⟨rfl, by show _ < 9; omega, .inl rfl⟩, trivial⟩
  refine SW.freezeZ (fun j => Nat.beq j 8) 3 (by rfl) ?_
  obtain ⟨NN, hNN⟩ : ∃ NN, NN = m + 1 := ⟨_, rfl⟩
  refine SW.preR (f2 := ⟨⟨24, getT [(4, .ptr 3 0), (5, .ptr 4 0)]⟩, [5]⟩) (st2 := ⟨[(5, .dfr), (4, .cells none false [intsV NN false V]), (3, .cells none false [iV 0, iV 0]), (1, .cells none true [.mp 0]), (0, .map ME cl)] ++ [], 9⟩) (ρ := ren1 9 9) ?_ ?_
  · refine WeakR.up rfl rfl (fun id h => by rw [List.mem_singleton.1 h]; show 5 < 9; omega) (Nat.le_refl _) (.inl rfl) (Nat.le_refl _) ⟨RenV.ptr (by omega), RenV.ptr (by omega), trivial⟩
      ⟨⟨by omega, _, rfl, .dfr, .inr rfl⟩, ⟨by omega, _, rfl, .cells (.cons (RenV.eqv (RenV.closed (intsV_below _ _ _)) ?_) .nil), .inr rfl⟩, ⟨by omega, _, rfl, .cells (.cons (RenV.closed Below.lit) (.cons (RenV.closed Below.lit) .nil)), .inr rfl⟩, ⟨by omega, _, rfl, .cells (.cons (RenV.mp (by omega)) .nil), .inr rfl⟩, ⟨by omega, _, rfl, .map (by rw [← hME]; exact fun x hx => by obtain ⟨p, _, rfl⟩ := List.mem_map.1 hx; exact ⟨pkV_below _, Below.lit⟩), .inr rfl⟩, trivial⟩ (fun p hp => by cases hp)
    rw [frz_slE (fm := none) (G := G) rfl rfl (by rw [hG, flatG_length]; omega), hNN]
    exact Eqv.isl rfl fun i k hi hk => Eqv.of (by rw [hG]; exact frz_flat hi hk rfl)
  have hN0 : (0 : Int) < Int.ofNat NN := by rw [hNN]; exact Int.ofNat_lt.2 (Nat.succ_pos m)
  have hmin : leN (V 0) (fun i => V (1 + i)) m = lo := by
    obtain ⟨⟨h1, h2⟩, h3⟩ := leN_le (V 0) (fun i => V (1 + i)) m
    obtain ⟨p, hp, he⟩ := hlo
    obtain ⟨i, hi, hVi⟩ := hcv p hp
    have hge : leN (V 0) (fun i => V (1 + i)) m ≤ lo := by
      rw [← he, ← hVi]
      cases i with
      | zero => exact h1
      | succ i =>
        have h4 : leN (V 0) (fun i => V (1 + i)) m ≤ V (1 + i) := h2 i (by omega)
        rw [show 1 + i = i + 1 by omega] at h4; exact h4
    have hle : lo ≤ leN (V 0) (fun i => V (1 + i)) m := by
      rcases h3 with h3 | ⟨j, hj, h3⟩
      · obtain ⟨p, hp, e⟩ := hmem 0 (by omega)
        rw [h3, e]; exact hlo' p hp
      · obtain ⟨p, hp, e⟩ := hmem (1 + j) (by omega)
        rw [h3]
        show lo ≤ V (1 + j)
        rw [e]; exact hlo' p hp
    omega
  have hmax : grN (V 0) (fun i => V (i + 1)) m = hi := by
    obtain ⟨⟨h1, h2⟩, h3⟩ := grN_ge (V 0) (fun i => V (i + 1)) m
    obtain ⟨p, hp, he⟩ := hhi
    obtain ⟨i, hi', hVi⟩ := hcv p hp
    have hge : hi ≤ grN (V 0) (fun i => V (i + 1)) m := by
      rw [← he, ← hVi]
      cases i with
      | zero => exact h1
      | succ i => exact h2 i (by omega)
    have hle : grN (V 0) (fun i => V (i + 1)) m ≤ hi := by
      rcases h3 with h3 | ⟨j, hj, h3⟩
      · obtain ⟨p, hp, e⟩ := hmem 0 (by omega)
        rw [h3, e]; exact hhi' p hp
      · obtain ⟨p, hp, e⟩ := hmem (j + 1) (by omega)
        rw [h3]
        show V (j + 1) ≤ hi
        rw [e]; exact hhi' p hp
    omega
  have c97 : Pure Try.prog 97 [iV (V (O.nat 0)), .isl (O.sub NN (O.nat 1)) 1 false (fun i => intC V (O.add (O.nat 1) i))] (iV lo) := by
    subst hO
    show Pure Try.prog 97 [iV (V 0), intsV (NN - 1) false (fun i => V (1 + i))] (iV lo)
    rw [hNN, Nat.add_sub_cancel, ← hmin]
    exact least_ok (V 0) m false (fun i => V (1 + i)) (by omega)
  have c98 : Pure Try.prog 98 [.isl NN 1 false (intC V)] (iV hi) := by
    have := greatest_ok NN false V (by omega) (by omega)
    rw [hNN, Nat.add_sub_cancel, hmax, ← hNN] at this
    exact this
  refine SW.seqRunD tok mixed hO (by rfl) (by cbv <;> rfl) ?_ ?_
  · have hn1 : O.nat 1 = 1 := by subst hO; rfl
    refine ⟨?_, Nat.le_refl _, (by decide : (0 : Int) ≤ 1), Int.le_refl _, hN0⟩
    show O.nat 1 ≤ NN
    rw [hn1]; omega
  refine AnyE.callP c97 (by cbv <;> rfl) (by cbv <;> rfl) ?_
  refine AnyE.run tok hO (by rfl) (by cbv <;> rfl) (by trivial) ?_
  refine AnyE.callP c98 (by cbv <;> rfl) (by cbv <;> rfl) ?_
  refine AnyE.run tok hO (by rfl) (by cbv <;> rfl) (by trivial) ?_
  refine AnyE.eff tok hO (by cbv <;> rfl) (by cbv <;> rfl) (by trivial) ?_
  refine AnyE.done (by rfl) ?_
  exact SW.ret ⟨_, _, rfl, rfl, rfl, rfl, Eqv.of rfl⟩
theorem ends59 (g : FuncId) (val : PK → Int) (E : List (PK × Nat)) (cl : Nat) (hb : BornG E cl) (hE : E.length < 100000) (hof : ∀ p ∈ E, Pure Try.prog g [pkV p.1] (iV (val p.1))) (lo hi : Int)
    (hlo : ∃ p ∈ E, val p.1 = lo) (hlo' : ∀ p ∈ E, lo ≤ val p.1) (hhi : ∃ p ∈ E, val p.1 = hi) (hhi' : ∀ p ∈ E, val p.1 ≤ hi) {st : St} {mid bid : Nat} {fm : Option Nat} {ro : Bool}
    (hm : st.h.get mid = some (.map (mapE pkV E) cl)) (hc : st.h.get bid = some (.cells fm ro [.mp mid])) :
    CallW Try.prog 59 [.fn (.func 99) [] [.ptr bid 0], .fn (.func g) [] []] st (fun v st' => v = rangeV lo hi ∧ st' = st) := by
  refine call_roM (args2 := [.fn (.func 99) [] [.ptr 1 0], .fn (.func g) [] []]) hm hc (fun x hx => by obtain ⟨p, _, rfl⟩ := List.mem_map.1 hx; exact ⟨pkV_below _, Below.lit⟩) (Below.agg (AllB.ok ⟨Below.lit, Below.lit, trivial⟩)) (fun φ us h => ?_) (ends59_core g val E cl hb hE hof lo hi hlo hlo' hhi hhi')
  cases h with
  | cons h1 h2 =>
    obtain ⟨us1, vs1, rfl, k1, k2⟩ := h1.fn_inv
    cases h2 with
    | cons h3 h4 =>
      obtain ⟨us2, vs2, rfl, k3, k4⟩ := h3.fn_inv
      cases h4
      cases k1; cases k3; cases k4
      cases k2 with
      | cons k5 k6 =>
        cases k6
        obtain ⟨rfl, _⟩ := k5.ptr_inv
        refine .cons (.fn _ .nil (.cons ?_ .nil)) (.cons (.fn _ .nil .nil) .nil)
        exact VR.ptr (φ := ⟨fun i => if i = 0 then φ.f mid else φ.f bid, 2, φ.z⟩) 1 0 (by show 1 < 2; omega)
end Go.Fz
