/- Own work of the verifier of watercress: Lb7. -/
import Derived.Test.YtcjekdfncnmbfaaNa6
set_option linter.unusedVariables false
set_option linter.unusedSimpArgs false
set_option linter.unusedVariables false
set_option linter.unusedSimpArgs false
namespace Go.Fz
variable {P : Program} {T : Ti}
def ObjBelowM (n : Nat) : AObj → Prop
  | .map es _ => ∀ x ∈ es, Below n x.1 ∧ Below n x.2.1
  | .iter mid _ _ _ => mid < n
  | o => ObjBelow n o
structure WeakM (n : Nat) (f1 : Fm) (st1 : St) (f2 : Fm) (st2 : St) : Prop where
  len : f2.ts.len = f1.ts.len
  dm : f2.dm = f1.dm
  dmlt : ∀ id ∈ f2.dm, id < st2.n
  get : ∀ i, f2.ts.get i = .any ∨ (f2.ts.get i = f1.ts.get i ∧ (st2.n = st1.n ∨ Below st2.n (f1.ts.get i)))
  lo : n ≤ st2.n
  hi : st2.n ≤ st1.n
  obj : ∀ id o, st2.h.get id = some o → st1.h.get id = some o ∧ id < st2.n ∧ (st2.n = st1.n ∨ ObjBelowM st2.n o)
theorem ObjR.belowM {φ : Fi} {w : World} {id n : Nat} {o : AObj} (hb : ObjBelowM n o) (h : ObjR φ w id o) : ObjR (cutN φ n) w id o := by
  cases o with
  | map es clock =>
    obtain ⟨ces, h1, h2, h3⟩ := h
    exact ⟨ces, h1, h2, fun i x hx => by
      obtain ⟨e, k1, k2, k3, k4⟩ := h3 i x hx
      obtain ⟨b1, b2⟩ := hb x (List.mem_of_getElem? hx)
      exact ⟨e, k1, b1 _ _ k2, b2 _ _ k3, k4⟩⟩
  | cells fm ro cs => exact ObjR.below (o := .cells fm ro cs) hb h
  | loop r => exact ObjR.below (o := .loop r) hb h
  | dfr => exact h
  | iter mid b c d => exact ⟨h.1, h.2.1, hb⟩
theorem WeakM.ok {n : Nat} {f1 f2 : Fm} {st1 st2 : St} (hw : WeakM n f1 st1 f2 st2) {φ : Fi} {w : World} {a : Act} (hr : Rel φ st1 w) (ha : ActR φ f1 a) :
    Rel (cutN φ st2.n) st2 w ∧ ActR (cutN φ st2.n) f2 a ∧ Fr φ st1 w (cutN φ st2.n) st2 w := by
  have hsame : st2.n = st1.n → cutN φ st2.n = φ := fun h => by cases φ; simp only [cutN, h, ← hr.n]
  refine ⟨⟨rfl, fun id o h => (hw.obj id o h).2.1, fun id o h => hr.blk id o (hw.obj id o h).1, fun id o h => ?_, fun i j oi oj hi hj => hr.sep i j oi oj (hw.obj i oi hi).1 (hw.obj j oj hj).1, fun id o f h hf => ?_, fun b c hb => ?_⟩, ⟨⟨?_, fun i => ?_⟩, ?_, hw.dmlt⟩,
    ⟨rfl, rfl, rfl, Nat.le_refl _, fun _ _ _ => rfl, fun k ⟨id, o, h, ho, hb⟩ => .inl ⟨id, o, (hw.obj id o h).1, ho, hb⟩, fun b c hb => .inl hb⟩⟩
  · obtain ⟨h1, h2, h3⟩ := hw.obj id o h
    rcases h3 with h3 | h3
    · rw [hsame h3]; exact hr.obj id o h1
    · exact (hr.obj id o h1).belowM h3
  · obtain ⟨h1, h2, h3⟩ := hw.obj id o h
    rcases h3 with h3 | h3
    · rw [h3]; exact hr.fam id o f h1 hf
    · cases o with
      | cells fm ro cs => exact h3.2 f hf
      | loop r => cases hf
      | dfr => cases hf
      | map es clock => cases hf
      | iter a b c d => cases hf
  · obtain ⟨h1, h2, h3⟩ := hr.froz b c hb
    exact ⟨h1, h2, fun id o h => h3 id o (hw.obj id o h).1⟩
  · rw [hw.len]; exact ha.ts.size
  · rcases hw.get i with h | ⟨h, h2⟩
    · rw [h]; exact .any _
    · rw [h]
      rcases h2 with h2 | h2
      · rw [hsame h2]; exact ha.ts.get i
      · exact h2 _ _ (ha.ts.get i)
  · rw [hw.dm]; exact ha.dm
theorem SW.weakM {rd : Option Nat} {c : Code} {Q : Exit → Fm → St → Prop} {f : Fm} {st : St} (h : SW P rd c (fun e f1 st1 => Q e f1 st1 ∨ ∃ f2 st2, WeakM st.n f1 st1 f2 st2 ∧ Q e f2 st2) f st) : SW P rd c Q f st := by
  intro φ w a n h1 h2 h3
  refine wpIn_mono (h φ w a n h1 h2 h3) fun e a' w' hl => ?_
  obtain ⟨f1, st1, φ1, hq, he, hr, ha, hf⟩ := hl
  rcases hq with hq | ⟨f2, st2, hw, hq⟩
  · exact ⟨f1, st1, φ1, hq, he, hr, ha, hf⟩
  · obtain ⟨k1, k2, k3⟩ := hw.ok hr ha
    refine ⟨f2, st2, cutN φ1 st2.n, hq, ⟨?_, he.f, he.z⟩, k1, k2, hf.trans k3⟩
    rw [h2.n]; exact hw.lo
theorem SW.loopM {α : Type} {rd : Option Nat} {c : Code} {Q : Exit → Fm → St → Prop} {f : Fm} {st : St} (F : α → Fm) (S : α → St) (m : α → Nat) (Inv : α → Prop) (x0 : α) (hn : ∀ x, (S x).n = st.n) (h0 : Inv x0) (hw : Weak st.n f st (F x0) (S x0))
    (hround : ∀ x, Inv x → SW P rd c (thenQ (fun f' st' => ∃ x', m x' < m x ∧ Inv x' ∧ WeakM st.n f' st' (F x') (S x')) Q) (F x) (S x)) : SW P rd (.loop c) Q f st := by
  refine SW.pre hw (SW.loop (fun k f st => ∃ x, Inv x ∧ m x = k ∧ f = F x ∧ st = S x) (m x0) ⟨x0, h0, rfl, rfl, rfl⟩ fun k f' st' ⟨x, hx, hk, hf, hs⟩ => ?_)
  subst hf; subst hs; subst hk
  refine SW.weakM ((hround x hx).mono fun e f1 st1 hq => ?_)
  cases e with
  | normal =>
    obtain ⟨x', h1, h2, h3⟩ := hq
    exact .inr ⟨F x', S x', by rw [hn]; exact h3, m x', h1, x', h2, rfl, rfl, rfl⟩
  | _ => exact .inl hq
def AllOM (q : Prop) (n : Nat) (h1 : Hp) : Hp → Prop
  | [] => True
  | x :: l => (h1.get x.1 = some x.2 ∧ x.1 < n ∧ (q ∨ ObjBelowM n x.2)) ∧ AllOM q n h1 l
theorem AllOM.ok {q : Prop} {n : Nat} {h1 : Hp} : ∀ {h : Hp}, AllOM q n h1 h → ∀ x ∈ h, h1.get x.1 = some x.2 ∧ x.1 < n ∧ (q ∨ ObjBelowM n x.2)
  | [], _, x, h => by cases h
  | y :: l, h, x, hx => by
    rcases List.mem_cons.1 hx with rfl | hx
    · exact h.1
    · exact h.2.ok x hx
theorem WeakM.by {n : Nat} {f1 : Fm} {st1 : St} {l : List (Nat × AV)} {len : Nat} {dm : List Nat} {h2 : Hp} {n2 : Nat} (e1 : len = f1.ts.len) (e2 : dm = f1.dm) (e3 : ∀ id ∈ dm, id < n2) (e5 : n ≤ n2) (e6 : n2 ≤ st1.n)
    (e4 : AllW (n2 = st1.n) n2 f1.ts.get l) (e7 : AllOM (n2 = st1.n) n2 st1.h h2) : WeakM n f1 st1 ⟨⟨len, getT l⟩, dm⟩ ⟨h2, n2⟩ :=
  ⟨e1, e2, e3, getT_weak l e4.ok, e5, e6, Hp.get_all _ e7.ok⟩
end Go.Fz
namespace Go.Fz
open Go.Proofs
set_option maxRecDepth 100000
def bmP (b : Nat → Bool) : Nat → List (Bool × Nat) × Nat
  | 0 => ([], 0)
  | i + 1 => (updE (bmP b i).1 (b i) (bmP b i).2, updC (bmP b i).1 (b i) (bmP b i).2)
def someB (b : Nat → Bool) (x : Bool) (n : Nat) : Bool := decide (x ∈ (bmP b n).1.map (·.1))
def verdict (b : Nat → Bool) (n : Nat) : Int := if someB b false n = false then 1 else if someB b true n = false then 2 else 3
end Go.Fz
namespace Go.Fz
open Go.Proofs
set_option maxRecDepth 100000
end Go.Fz
namespace Go.Fz
section
variable {P : Program} {T : Ti}
end
end Go.Fz
namespace Go.Fz
open Go.Proofs
set_option maxRecDepth 100000
section
variable {α : Type} {next : α → (Nat → Int) → α} {N : Nat} {lo hi : Nat → Int}
end
def Born (E : List (Mk × Nat)) (c : Nat) : Prop := (∀ p ∈ E, p.2 < c) ∧ (E.map (·.2)).Nodup
end Go.Fz
namespace Go.Fz
open Go.Proofs
set_option maxRecDepth 100000
section
variable {P : Program} {T : Ti}
end
end Go.Fz
namespace Go.Fz
open Go.Proofs
set_option maxRecDepth 100000
end Go.Fz
namespace Go.Fz
open Go.Proofs
set_option maxRecDepth 100000
def leN (a : Int) (fl : Nat → Int) : Nat → Int
  | 0 => a
  | i + 1 => if fl i < leN a fl i then fl i else leN a fl i
end Go.Fz
namespace Go.Fz
open Go.Proofs
set_option maxRecDepth 100000
def hasN (n : Nat) (fl : Nat → Int) (x : Int) : Bool := decide (∃ i, i < n ∧ fl i = x)
theorem index_ok (n : Nat) (ex : Bool) (fl : Nat → Int) (x : Int) (hn : n < 1000) : ∃ r : Int, Pure Try.prog 114 [intsV n ex fl, iV x] (iV r) ∧ ((0 ≤ r) ↔ ∃ i, i < n ∧ fl i = x) := by
  obtain ⟨O, hO⟩ : ∃ O : Ar, O = std := ⟨_, rfl⟩
  by_cases hex : ∃ i, i < n ∧ fl i = x
  ·
    obtain ⟨k, ⟨hk, hkx⟩, hmin⟩ : ∃ k, (k < n ∧ fl k = x) ∧ ∀ j, j < k → ¬ fl j = x := by
      obtain ⟨i, hi, hix⟩ := hex
      have : ∀ m, ∀ i, i ≤ m → i < n → fl i = x → ∃ k, (k < n ∧ fl k = x) ∧ ∀ j, j < k → ¬ fl j = x := fun m => by
        induction m with
        | zero => exact fun i h1 h2 h3 => ⟨i, ⟨h2, h3⟩, fun j hj => by omega⟩
        | succ m ih =>
          intro i h1 h2 h3
          by_cases hq : ∃ j, j < i ∧ fl j = x
          · obtain ⟨j, hj, hjx⟩ := hq
            exact ih j (by omega) (by omega) hjx
          · exact ⟨i, ⟨h2, h3⟩, fun j hj hjx => hq ⟨j, hj, hjx⟩⟩
      exact this i i (Nat.le_refl _) hi hix
    refine ⟨k, ?_, by constructor; exact fun _ => hex; exact fun _ => by omega⟩
    refine pure_of_body tok 3 Try.func114 en114 rfl ⟨intsV_below n ex fl, iV_below, trivial⟩ Below.lit ?_
    refine SW.seqRun tok hO (by cbv <;> rfl) (by trivial) ?_
    refine SW.seq ?_
    refine SW.seqRun tok hO (by cbv <;> rfl) (by trivial) ?_
    refine (SW.block (SW.loopF (fun i : Nat => ⟨⟨19, getT [(0, intsV n ex fl), (1, iV x), (7, iV n), (8, iV i)]⟩, []⟩) (fun _ => ⟨[], 0⟩) (fun i => n - i) (fun i => i ≤ k) 0
      (fun _ => rfl) (Nat.zero_le _) (Weak.by rfl rfl (by simp) (Nat.le_refl _) (Nat.le_refl _) ⟨⟨rfl, .inl rfl⟩, ⟨rfl, .inl rfl⟩, ⟨rfl, .inl rfl⟩, ⟨rfl, .inl rfl⟩, trivial⟩ trivial) fun i hi => ?_))
    refine SW.seqRun tok hO (by cbv <;> rfl) (by trivial) ?_
    refine SW.seq (SW.condS (by cbv <;> rfl) (fun h => SW.skip ?_) (fun h => SW.exit ?_))
    · have hlt : i < n := by omega
      have h0 : (0 : Int) ≤ Int.ofNat i := Int.natCast_nonneg i
      refine SW.seq (SW.block ?_)
      refine SW.seqRun tok hO (by cbv <;> rfl) (by trivial) ?_
      refine SW.seqRun tok hO (by cbv <;> rfl) ?_ ?_
      · exact ⟨h0, Int.ofNat_lt.2 hlt⟩
      refine SW.condS (by cbv <;> rfl) (fun h' => ?_) (fun h' => SW.skip ?_)
      · refine SW.seqRun tok hO (by cbv <;> rfl) (by trivial) ?_
        refine SW.ret ⟨_, _, rfl, rfl, Eqv.int ?_⟩
        have : x = fl i := by subst hO; simpa [std] using h'
        have hik : i = k := by
          rcases Nat.lt_or_ge i k with h1 | h1
          · exact absurd this.symm (hmin i h1)
          · omega
        rw [hik]; rfl
      · have hne : ¬ x = fl i := by subst hO; simpa [std] using h'
        have hik : i ≠ k := fun e => hne (by rw [e]; exact hkx.symm)
        refine SW.run tok hO (by cbv <;> rfl) (by trivial) ?_
        exact ⟨i + 1, by omega, by omega, Weak.by rfl rfl (by simp) (Nat.le_refl _) (Nat.zero_le _) ⟨⟨rfl, .inr (intsV_below n ex fl)⟩, ⟨rfl, .inr Below.lit⟩, ⟨rfl, .inr Below.lit⟩, ⟨inc_ok hO (by omega), .inr Below.lit⟩, trivial⟩ trivial⟩
    · exfalso
      have hge : n ≤ i := by subst hO; simpa [std] using h
      omega
  · refine ⟨-1, ?_, ⟨fun h => absurd h (by omega), fun h => absurd h hex⟩⟩
    refine pure_of_body tok 3 Try.func114 en114 rfl ⟨intsV_below n ex fl, iV_below, trivial⟩ Below.lit ?_
    refine SW.seqRun tok hO (by cbv <;> rfl) (by trivial) ?_
    refine SW.seq ?_
    refine SW.seqRun tok hO (by cbv <;> rfl) (by trivial) ?_
    refine (SW.block (SW.loopF (fun i : Nat => ⟨⟨19, getT [(0, intsV n ex fl), (1, iV x), (7, iV n), (8, iV i)]⟩, []⟩) (fun _ => ⟨[], 0⟩) (fun i => n - i) (fun i => i ≤ n) 0
      (fun _ => rfl) (Nat.zero_le _) (Weak.by rfl rfl (by simp) (Nat.le_refl _) (Nat.le_refl _) ⟨⟨rfl, .inl rfl⟩, ⟨rfl, .inl rfl⟩, ⟨rfl, .inl rfl⟩, ⟨rfl, .inl rfl⟩, trivial⟩ trivial) fun i hi => ?_))
    refine SW.seqRun tok hO (by cbv <;> rfl) (by trivial) ?_
    refine SW.seq (SW.condS (by cbv <;> rfl) (fun h => SW.skip ?_) (fun h => SW.exit ?_))
    · have hlt : i < n := by subst hO; simpa [std] using h
      have h0 : (0 : Int) ≤ Int.ofNat i := Int.natCast_nonneg i
      refine SW.seq (SW.block ?_)
      refine SW.seqRun tok hO (by cbv <;> rfl) (by trivial) ?_
      refine SW.seqRun tok hO (by cbv <;> rfl) ?_ ?_
      · exact ⟨h0, Int.ofNat_lt.2 hlt⟩
      refine SW.condS (by cbv <;> rfl) (fun h' => ?_) (fun h' => SW.skip ?_)
      · exfalso
        have : x = fl i := by subst hO; simpa [std] using h'
        exact hex ⟨i, hlt, this.symm⟩
      · refine SW.run tok hO (by cbv <;> rfl) (by trivial) ?_
        exact ⟨i + 1, by omega, by omega, Weak.by rfl rfl (by simp) (Nat.le_refl _) (Nat.zero_le _) ⟨⟨rfl, .inr (intsV_below n ex fl)⟩, ⟨rfl, .inr Below.lit⟩, ⟨rfl, .inr Below.lit⟩, ⟨inc_ok hO (by omega), .inr Below.lit⟩, trivial⟩ trivial⟩
    · refine SW.seqRun tok hO (by cbv <;> rfl) (by trivial) ?_
      refine SW.ret ⟨_, _, rfl, rfl, Eqv.of rfl⟩
theorem contains_ok (n : Nat) (ex : Bool) (fl : Nat → Int) (x : Int) (hn : n < 1000) : Pure Try.prog 107 [intsV n ex fl, iV x] (.sb (hasN n fl x)) := by
  obtain ⟨O, hO⟩ : ∃ O : Ar, O = std := ⟨_, rfl⟩
  obtain ⟨r, h1, h2⟩ := index_ok n ex fl x hn
  refine pure_of_body tok 3 Try.func107 en107 rfl ⟨intsV_below n ex fl, iV_below, trivial⟩ Below.sb ?_
  refine SW.seqRun tok hO (by cbv <;> rfl) (by trivial) ?_
  refine SW.seqRun tok hO (by cbv <;> rfl) (by trivial) ?_
  refine OpsW.callI h1 (by cbv <;> rfl) fun v hv => ?_
  refine OpsW.run tok hO (by cbv <;> rfl) (by trivial) ?_
  refine SW.ret ⟨_, _, rfl, rfl, Eqv.sb (Bool.eq_iff_iff.2 ?_)⟩
  subst hO; subst hv
  simp only [std, hasN, decide_eq_true_eq]
  exact h2
def arrW (T : Ti) (t n sz : Nat) : Bool := match T t with
  | some i => match i.desc with
    | .array m e => match T e with
      | some j => Nat.beq m n && Nat.beq j.size sz
      | none => false
    | _ => false
  | none => false
end Go.Fz
namespace Go.Fz
variable {P : Program} {T : Ti}
def not01 (j : Nat) : Bool := !(Nat.beq j 0) && !(Nat.beq j 1)
end Go.Fz
namespace Go.Fz
open Go.Proofs
set_option maxRecDepth 100000
section
variable {P : Program}
theorem RenV.getT {ρ : Nat → Nat} {n : Nat} : ∀ {l : List (Nat × AV)}, AllP (fun p => RenV ρ n p.2 p.2) l → ∀ i, RenV ρ n (getT l i) (getT l i)
  | [], _, i => RenV.any
  | (j, a) :: r, h, i => by
    simp only [Fz.getT]
    cases Nat.beq j i with
    | true => exact h.1
    | false => exact RenV.getT h.2 i
end
section
variable {β : Type} [DecidableEq β]
end
theorem keyOf_pair {P : Program} {t e : TypeId} {f0 f1 : Field} {d : Nat} (hu : P.underlying t = some (.struct #[f0, f1])) (hsz : P.types.size = d + 1) (h0 : f0.type = e) (h1 : f1.type = e) (o0 : f0.offset = 0) (o1 : f1.offset = 1) (n0 : (f0.name != "_") = true) (n1 : (f1.name != "_") = true)
    (he : P.underlying e = some (.int .i64)) (c1 : P.cellsOf t = 2) (c3 : P.cellsOf e = 1) (k1 : P.keyType t = true) {a b : Int} (ha : (Lit.int .i64 a).wf = true) (hb : (Lit.int .i64 b).wf = true) : ∃ l, keyOf P t (.agg #[.int .i64 a, .int .i64 b]) = some l := by
  have f1' : Value.formed P t (.agg #[.int .i64 a, .int .i64 b]) = true := by simp [Value.formed, hu, c1]
  have hl : ∀ x : Int, (Lit.int .i64 x).wf = true → P.keyLits (d + 1) e [.int .i64 x] = some [.int .i64 x] := fun x hx => by
    unfold Program.keyLits
    rw [he]
    simp [hx]
  have hk : P.keyLits (P.types.size + 1) t [.int .i64 a, .int .i64 b] = some [.int .i64 a, .int .i64 b] := by
    rw [hsz]
    unfold Program.keyLits
    rw [hu]
    simp only [List.length_cons, List.length_nil, c1]
    rw [if_pos ⟨trivial, by simp [n0, n1]⟩]
    simp [h0, h1, o0, o1, c3, hl a ha, hl b hb]
  refine ⟨.string (keyBytes [.int .i64 a, .int .i64 b]), ?_⟩
  unfold keyOf
  rw [hu]
  simp only [k1, f1', Bool.and_true, if_true]
  show Option.map _ (P.keyLits _ t [.int .i64 a, .int .i64 b]) = _
  rw [hk]; rfl
end Go.Fz
namespace Go.Fz
open Go.Proofs
set_option maxRecDepth 100000
end Go.Fz
namespace Go.Fz
open Go.Proofs
set_option maxRecDepth 100000
section
variable {P : Program} {T : Ti} {β : Type}
end
end Go.Fz
namespace Go.Fz
open Go.Proofs
set_option maxRecDepth 100000
section
variable {P : Program} {T : Ti} {β : Type} [DecidableEq β]
end
end Go.Fz
namespace Go.Fz
open Go.Proofs
set_option maxRecDepth 100000
end Go.Fz
namespace Go.Fz
open Go.Proofs
set_option maxRecDepth 100000
end Go.Fz
namespace Go.Fz
open Go.Proofs
set_option maxRecDepth 100000
end Go.Fz
namespace Go.Fz
open Go.Proofs
set_option maxRecDepth 100000
section
variable (nw nl : Nat) (A B C D : Nat → Nat → Int) (a b c e : Nat → Int)
end
end Go.Fz
