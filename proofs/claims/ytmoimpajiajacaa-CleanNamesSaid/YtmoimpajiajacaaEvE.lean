/-
  LIGHT OPERATIONS, THE REST: structs and arrays that are built, cuts of slices and of arrays, equality of flat values. Own work of the verifier of watercress.
-/
import Derived.Test.YtmoimpajiajacaaEvD
import Derived.Laws.Tables
import Derived.ChangeKeysEq
namespace Go.Ev

def natOf : AV → Option Nat
  | .lit (.int _ n) => if 0 ≤ n then some n.toNat else none
  | _ => none
def natOr (d : Nat) : Option AV → Option Nat
  | none => some d
  | some a => natOf a

def sliceA (T : Ti) (h : Hp) (t : TypeId) (x : AV) (lo hi mx : Option AV) : Option AV :=
  match T t with
  | none => none
  | some i =>
    match i.desc, x with
    | .slice e, .sl id off len sz ex => match T e with
      | some j => if j.size = sz then
          match natOr 0 lo, natOr len hi, mx with
          | some l, some u, none => if l ≤ u ∧ u ≤ len ∧ (l = 0 ∨ l < len) then some (.sl id (off + l * sz) (u - l) sz (ex && u == len)) else none
          | some l, some u, some m => match hi, natOf m with
            | some _, some k => if l ≤ u ∧ u ≤ k ∧ k ≤ len then some (if k = l then .sl id off 0 sz true else .sl id (off + l * sz) (u - l) sz (u == k)) else none
            | _, _ => none
          | _, _, _ => none
        else none
      | none => none
    | .slice e, .lit (.slice none 0 0) => match T e with
      | some _ => match natOr 0 lo, natOr 0 hi, mx with
        | some 0, some 0, none => some (.lit (.slice none 0 0))
        | some 0, some 0, some m => match hi, natOf m with
          | some _, some 0 => some (.lit (.slice none 0 0))
          | _, _ => none
        | _, _, _ => none
      | none => none
    | .array n e, .ptr id off => match T e, h.get id with
      | some j, some (.cells _ false cs) =>
        match natOr 0 lo, natOr n hi, mx with
        | some l, some u, none => if l ≤ u ∧ u ≤ n ∧ (l = 0 ∨ l < n) ∧ off + n * j.size ≤ cs.length then some (.sl id (off + l * j.size) (u - l) j.size (u == n)) else none
        | _, _, _ => none
      | _, _ => none
    | _, _ => none

section
variable {P : Program} {T : Ti}

theorem natOf_ok {φ : Fi} {a : AV} {v : Value} {n : Nat} (h : natOf a = some n) (hv : VR φ a v) : ∃ k, v = .int k (n : Int) := by
  unfold natOf at h
  split at h
  · rename_i k m
    split at h
    · cases h; obtain rfl := hv.lit_inv; exact ⟨k, by rw [Int.toNat_of_nonneg (by assumption)]⟩
    · cases h
  · cases h

theorem bound_ok {φ : Fi} {x : AV} {v : Value} {n y : Nat} {c : BoundsCode} (h : natOf x = some n) (hv : VR φ x v) (hy : n ≤ y) (w : World) : (Instr.sliceBound v y c).run P w = .ok n w := by
  obtain ⟨k, rfl⟩ := natOf_ok h hv
  have : (0 : Int) ≤ (n : Int) ∧ (n : Int) ≤ (y : Int) := ⟨by omega, by omega⟩
  simp [Instr.sliceBound, asIntOf, this]

theorem bounds_ok {φ : Fi} {ρa : Operand → AV} {ρ : Operand → Value} (hρ : OpR φ ρa ρ) {s : Bool} {len cap l u m : Nat} {lo hi mx : Option Operand} (h1 : natOr 0 (lo.map ρa) = some l) (h2 : natOr len (hi.map ρa) = some u)
    (h3 : (mx = none ∧ m = cap) ∨ (∃ x, mx = some x ∧ natOf (ρa x) = some m ∧ hi.isSome)) (hl : l ≤ u) (hu : u ≤ m) (hm : m ≤ cap) (w : World) :
    (Instr.sliceBounds s len cap (lo.map ρ) (hi.map ρ) (mx.map ρ)).run P w = .ok (l, u, m) w := by
  unfold Instr.sliceBounds
  rcases h3 with ⟨rfl, rfl⟩ | ⟨x, rfl, hx, hh⟩
  · cases hi with
    | none =>
      simp only [Option.map_none, natOr, Option.some.injEq] at h2
      subst h2
      cases lo with
      | none => simp only [Option.map_none, natOr, Option.some.injEq] at h1; subst h1; simp
      | some a => simp only [Option.map_some, natOr] at h1; simp [bound_ok (P := P) h1 (hρ a) hl w]
    | some b =>
      simp only [Option.map_some, natOr] at h2
      cases lo with
      | none => simp only [Option.map_none, natOr, Option.some.injEq] at h1; subst h1; simp [bound_ok (P := P) h2 (hρ b) hu w]
      | some a => simp only [Option.map_some, natOr] at h1; simp [bound_ok (P := P) h1 (hρ a) hl w, bound_ok (P := P) h2 (hρ b) hu w]
  · cases hi with
    | none => cases hh
    | some b =>
      simp only [Option.map_some, natOr] at h2
      cases lo with
      | none => simp only [Option.map_none, natOr, Option.some.injEq] at h1; subst h1; simp [bound_ok (P := P) h2 (hρ b) hu w, bound_ok (P := P) hx (hρ x) hm w]
      | some a => simp only [Option.map_some, natOr] at h1; simp [bound_ok (P := P) h1 (hρ a) hl w, bound_ok (P := P) h2 (hρ b) hu w, bound_ok (P := P) hx (hρ x) hm w]

theorem slice_ok (hT : TOk P T) {φ : Fi} {st : St} {w : World} {ρa : Operand → AV} {ρ : Operand → Value} {t : TypeId} {x : Operand} {lo hi mx : Option Operand} {r : AV} (hr : Rel φ st w) (hρ : OpR φ ρa ρ)
    (h : sliceA T st.h t (ρa x) (lo.map ρa) (hi.map ρa) (mx.map ρa) = some r) :
    ∃ u, VR φ r u ∧ ∀ w', (Instr.sliceAt t (ρ x) (lo.map ρ) (hi.map ρ) (mx.map ρ)).run P w' = .ok u w' := by
  have hadd : ∀ (b o n : Nat), Addr.add ⟨b, o, none⟩ n = ⟨b, o + n, none⟩ := fun b o n => by unfold Addr.add; split <;> simp_all
  unfold sliceA at h
  split at h
  · cases h
  · rename_i i hi'
    split at h
    · rename_i e id off len sz ex hd hx
      split at h
      · rename_i j hj
        split at h
        · rename_i hsz
          subst hsz
          have hxv := hρ x
          rw [hx] at hxv
          obtain ⟨cap, hv, hid, hcap, hex, hbnd⟩ := hxv.sl_inv
          split at h
          · rename_i l u h1 h2 h3
            split at h
            · rename_i hc
              cases h
              obtain ⟨c1, c2, c3⟩ := hc
              have hmx : mx = none := by cases mx <;> simp_all
              subst hmx
              have hb := fun w' => bounds_ok (P := P) (s := true) (cap := cap) (m := cap) hρ h1 h2 (.inl ⟨rfl, rfl⟩) c1 (by omega) (Nat.le_refl _) w'
              refine ⟨.slice (some ⟨(φ.f id).b, (φ.f id).o + (off + l * j.size), none⟩) (u - l) (cap - l), .sl id (off + l * j.size) (u - l) j.size _ (cap - l) hid (by omega) (fun he => ?_) ?_, fun w' => ?_⟩
              · simp only [Bool.and_eq_true, beq_iff_eq] at he
                have := hex he.1
                omega
              · have : l * j.size + (cap - l) * j.size = cap * j.size := by rw [← Nat.add_mul]; congr 1; omega
                omega
              · simp only [Instr.sliceAt, Sem.run_bind, run_und hT hi', hd, Result.andThen, Instr.slice, hv, hb w', run_size hT hj, Sem.run_pure]
                by_cases hl : cap = l
                · have hl0 : l = 0 := by omega
                  have hc0 : cap = 0 := by omega
                  subst hl0; subst hc0
                  simp
                · rw [if_neg hl]
                  simp [hadd, Nat.add_assoc]
            · cases h
          · rename_i l u m h1 h2 h3
            split at h
            · rename_i b k hb hk
              split at h
              · rename_i hc
                cases h
                obtain ⟨c1, c2, c3⟩ := hc
                obtain ⟨y, rfl, hy⟩ : ∃ y, mx = some y ∧ ρa y = m := by cases mx <;> simp_all
                rw [← hy] at hk
                have hhi : hi.isSome := by cases hi <;> simp_all
                have hb' := fun w' => bounds_ok (P := P) (s := true) (cap := cap) hρ h1 h2 (.inr ⟨y, rfl, hk, hhi⟩) c1 c2 (by omega) w'
                by_cases hl : k = l
                · subst hl
                  rw [if_pos rfl]
                  refine ⟨.slice (some ⟨(φ.f id).b, (φ.f id).o + off, none⟩) 0 0, .sl id off 0 j.size true 0 hid (Nat.le_refl _) (fun _ => rfl) (by omega), fun w' => ?_⟩
                  simp only [Instr.sliceAt, Sem.run_bind, run_und hT hi', hd, Result.andThen, Instr.slice, hv, hb' w', run_size hT hj, Sem.run_pure, if_true]
                  simp; omega
                · rw [if_neg hl]
                  refine ⟨.slice (some ⟨(φ.f id).b, (φ.f id).o + (off + l * j.size), none⟩) (u - l) (k - l), .sl id (off + l * j.size) (u - l) j.size _ (k - l) hid (by omega) (fun he => ?_) ?_, fun w' => ?_⟩
                  · simp only [beq_iff_eq] at he; omega
                  · have : l * j.size + (k - l) * j.size = k * j.size := by rw [← Nat.add_mul]; congr 1; omega
                    have h5 : k * j.size ≤ cap * j.size := Nat.mul_le_mul_right _ (by omega)
                    omega
                  · simp only [Instr.sliceAt, Sem.run_bind, run_und hT hi', hd, Result.andThen, Instr.slice, hv, hb' w', run_size hT hj, Sem.run_pure]
                    rw [if_neg hl]
                    simp [hadd, Nat.add_assoc]
              · cases h
            · cases h
          · cases h
        · cases h
      · cases h
    · rename_i e hd hx
      split at h
      · rename_i j hj
        have hv : ρ x = .slice none 0 0 := by have := hρ x; rw [hx] at this; exact this.lit_inv
        split at h
        · rename_i h1 h2 h3
          cases h
          have hmx : mx = none := by cases mx <;> simp_all
          subst hmx
          have hb := fun w' => bounds_ok (P := P) (s := true) (cap := 0) (m := 0) hρ h1 h2 (.inl ⟨rfl, rfl⟩) (Nat.le_refl _) (Nat.le_refl _) (Nat.le_refl _) w'
          refine ⟨_, .lit _, fun w' => ?_⟩
          simp only [Instr.sliceAt, Sem.run_bind, run_und hT hi', hd, Result.andThen, Instr.slice, hv, hb w', run_size hT hj, Sem.run_pure]
          simp
        · rename_i m h1 h2 h3
          split at h
          · rename_i b hb hk
            cases h
            obtain ⟨y, rfl, hy⟩ : ∃ y, mx = some y ∧ ρa y = m := by cases mx <;> simp_all
            rw [← hy] at hk
            have hhi : hi.isSome := by cases hi <;> simp_all
            have hb' := fun w' => bounds_ok (P := P) (s := true) (cap := 0) hρ h1 h2 (.inr ⟨y, rfl, hk, hhi⟩) (Nat.le_refl _) (Nat.le_refl _) (Nat.le_refl _) w'
            refine ⟨_, .lit _, fun w' => ?_⟩
            simp only [Instr.sliceAt, Sem.run_bind, run_und hT hi', hd, Result.andThen, Instr.slice, hv, hb' w', run_size hT hj, Sem.run_pure]
            simp
          · cases h
        · cases h
      · cases h
    · rename_i n e id off hd hx
      split at h
      · rename_i j fm cs hj ho
        have hxv := hρ x
        rw [hx] at hxv
        obtain ⟨hv, hid⟩ := hxv.ptr_inv
        obtain ⟨_, hblk⟩ := hr.obj id _ ho
        obtain ⟨c, ct, hb0, hcn, hcl⟩ := hblk rfl
        split at h
        · rename_i l u h1 h2 h3
          split at h
          · rename_i hc
            cases h
            obtain ⟨c1, c2, c3, c4⟩ := hc
            have hmx : mx = none := by cases mx <;> simp_all
            subst hmx
            have hb := fun w' => bounds_ok (P := P) (s := false) (len := n) (cap := n) (m := n) hρ h1 h2 (.inl ⟨rfl, rfl⟩) c1 (by omega) (Nat.le_refl _) w'
            refine ⟨.slice (some ⟨(φ.f id).b, (φ.f id).o + (off + l * j.size), none⟩) (u - l) (n - l), .sl id (off + l * j.size) (u - l) j.size _ (n - l) hid (by omega) (fun he => ?_) ?_, fun w' => ?_⟩
            · simp only [beq_iff_eq] at he; omega
            · have : l * j.size + (n - l) * j.size = n * j.size := by rw [← Nat.add_mul]; congr 1; omega
              omega
            · simp only [Instr.sliceAt, Sem.run_bind, run_und hT hi', hd, Result.andThen, hv, Instr.sureAddr, hb w', run_size hT hj, Sem.run_pure]
              by_cases hl : n = l
              · have hl0 : l = 0 := by omega
                have hn0 : n = 0 := by omega
                subst hl0; subst hn0
                simp
              · rw [if_neg hl]
                simp [hadd, Nat.add_assoc]
          · cases h
        · cases h
      · cases h
    · cases h

/-! ### Structs and arrays that are built -/
end
def placesA (T : Ti) : List Field → Option (List (Nat × Nat))
  | [] => some []
  | f :: fs => match T f.type, placesA T fs with
    | some i, some r => some ((f.offset, i.size) :: r)
    | _, _ => none

def buildA (T : Ti) (t : TypeId) (parts : List (Nat × AV)) : Option AV :=
  match T t with
  | none => none
  | some i => match i.desc with
    | .struct fs => match placesA T fs.toList with
      | some places => (fillA (fun k => places[k]?) (i.zero.map .lit) parts).map .agg
      | none => none
    | .array _ e => match T e with
      | some j => (fillA (fun k => some (k * j.size, j.size)) (i.zero.map .lit) parts).map .agg
      | none => none
    | _ => none

section
variable {P : Program} {T : Ti}

theorem places_ok (hT : TOk P T) : ∀ (fs : List Field) (places : List (Nat × Nat)), placesA T fs = some places → fs.mapM (fun f => (P.info? f.type).map fun i => (f.offset, i.size)) = some places
  | [], places, h => by simp only [placesA, Option.some.injEq] at h; subst h; rfl
  | f :: fs, places, h => by
    simp only [placesA] at h
    split at h
    · rename_i i r hi hr
      cases h
      obtain ⟨ti, z, h1, h2, _⟩ := (hT _ i hi).info
      simp [List.mapM_cons, h1, h2, places_ok hT fs r hr]
    · cases h

theorem build_ok (hT : TOk P T) {φ : Fi} {ρa : Operand → AV} {ρ : Operand → Value} (hρ : OpR φ ρa ρ) {t : TypeId} {parts : Array (Nat × Operand)} {r : AV} (h : buildA T t (parts.toList.map fun p => (p.1, ρa p.2)) = some r) :
    ∃ u, VR φ r u ∧ ∀ w, (Instr.build t (parts.map fun (i, x) => (i, ρ x))).run P w = .ok u w := by
  have hpm : (Array.map (fun (x : Nat × Operand) => (x.1, ρ x.2)) parts).toList = parts.toList.map fun p => (p.1, ρ p.2) := by simp
  unfold buildA at h
  split at h
  · cases h
  · rename_i i hi
    obtain ⟨ti, z, h1, h2, h3, h4, h5⟩ := (hT t i hi).info
    have hu := (hT t i hi).und
    have hzl : VRL φ (i.zero.map .lit) z.cells.toList := by rw [h5]; exact VRL.lits _
    split at h
    · rename_i fs hd
      split at h
      · rename_i places hp
        rw [Option.map_eq_some_iff] at h
        obtain ⟨cs, hf, rfl⟩ := h
        obtain ⟨rs, g1, g2⟩ := fill_ok hρ parts.toList hzl hf
        refine ⟨_, .agg g2, fun w => run_build w t _ _ ?_⟩
        rw [hd] at hu
        simp only [Program.built, h1, hu, h4, places_ok hT fs.toList places hp, hpm]
        simpa using g1
      · cases h
    · rename_i n e hd
      split at h
      · rename_i j hj
        rw [Option.map_eq_some_iff] at h
        obtain ⟨cs, hf, rfl⟩ := h
        obtain ⟨rs, g1, g2⟩ := fill_ok hρ parts.toList hzl hf
        obtain ⟨tj, zj, k1, k2, _⟩ := (hT e j hj).info
        refine ⟨_, .agg g2, fun w => run_build w t _ _ ?_⟩
        rw [hd] at hu
        simp only [Program.built, h1, hu, h4, k1, k2, hpm]
        simpa using g1
      · cases h
    · cases h
end

/-! ### Equality of flat values -/
def eqFsA (T : Ti) (eq : TypeId → AV → AV → Option Bool) (xs ys : List AV) : List Field → Option Bool
  | [] => some true
  | f :: fs =>
    if f.name ≠ "_" then
      match partA T f.type xs f.offset, partA T f.type ys f.offset with
      | some a, some b => match eq f.type a b with
        | some true => eqFsA T eq xs ys fs
        | some false => some false
        | none => none
      | _, _ => none
    else eqFsA T eq xs ys fs
def eqIsA (T : Ti) (eq : TypeId → AV → AV → Option Bool) (e : TypeId) (sz : Nat) (xs ys : List AV) : List Nat → Option Bool
  | [] => some true
  | i :: is =>
    match partA T e xs (i * sz), partA T e ys (i * sz) with
    | some a, some b => match eq e a b with
      | some true => eqIsA T eq e sz xs ys is
      | some false => some false
      | none => none
    | _, _ => none
def eqA (T : Ti) : Nat → TypeId → AV → AV → Option Bool
  | 0, _, _, _ => none
  | d + 1, t, a, b =>
    match T t with
    | none => none
    | some i => match i.desc, a, b with
      | .bool, .lit (.bool x), .lit (.bool y) => some (x == y)
      | .int _, .lit (.int k x), .lit (.int k' y) => if k = k' then some (x == y) else none
      | .struct fs, .agg xs, .agg ys => if i.flat then eqFsA T (eqA T d) xs ys fs.toList else none
      | .array n e, .agg xs, .agg ys => match T e with
        | some j => eqIsA T (eqA T d) e j.size xs ys (List.range n)
        | none => none
      | _, _, _ => none

section
variable {P : Program} {T : Ti}

theorem eqFs_ok (hT : TOk P T) {φ : Fi} {eq : TypeId → AV → AV → Option Bool} {D : Nat} (heq : ∀ t a b u v r, VR φ a u → VR φ b v → eq t a b = some r → ∀ w, (Op.equalIn D t u v).run P w = .ok r w)
    {xs ys : List AV} {us vs : List Value} (hx : VRL φ xs us) (hy : VRL φ ys vs) : ∀ (fs : List Field) (r : Bool), eqFsA T eq xs ys fs = some r → ∀ w, (Op.eqFields D us.toArray vs.toArray fs).run P w = .ok r w
  | [], r, h, w => by simp only [eqFsA, Option.some.injEq] at h; subst h; rfl
  | f :: fs, r, h, w => by
    simp only [eqFsA] at h
    simp only [Op.eqFields]
    split at h
    · rename_i hn
      rw [if_pos hn]
      split at h
      · rename_i a b ha hb
        obtain ⟨u, hu, hru⟩ := part_ok (P := P) hT hx ha
        obtain ⟨v, hv, hrv⟩ := part_ok (P := P) hT hy hb
        split at h
        · rename_i hq
          simp [Sem.run_bind, hru, hrv, heq _ _ _ _ _ _ hu hv hq w, Result.andThen, eqFs_ok hT heq hx hy fs r h w]
        · rename_i hq
          cases h
          simp [Sem.run_bind, hru, hrv, heq _ _ _ _ _ _ hu hv hq w, Result.andThen]
        · cases h
      · cases h
    · rename_i hn
      rw [if_neg hn]
      exact eqFs_ok hT heq hx hy fs r h w
theorem eqIs_ok (hT : TOk P T) {φ : Fi} {eq : TypeId → AV → AV → Option Bool} {D : Nat} (heq : ∀ t a b u v r, VR φ a u → VR φ b v → eq t a b = some r → ∀ w, (Op.equalIn D t u v).run P w = .ok r w)
    {e : TypeId} {sz : Nat} {xs ys : List AV} {us vs : List Value} (hx : VRL φ xs us) (hy : VRL φ ys vs) : ∀ (is : List Nat) (r : Bool), eqIsA T eq e sz xs ys is = some r → ∀ w, (Op.eqItems D e sz us.toArray vs.toArray is).run P w = .ok r w
  | [], r, h, w => by simp only [eqIsA, Option.some.injEq] at h; subst h; rfl
  | i :: is, r, h, w => by
    simp only [eqIsA] at h
    simp only [Op.eqItems]
    split at h
    · rename_i a b ha hb
      obtain ⟨u, hu, hru⟩ := part_ok (P := P) hT hx ha
      obtain ⟨v, hv, hrv⟩ := part_ok (P := P) hT hy hb
      split at h
      · rename_i hq
        simp [Sem.run_bind, hru, hrv, heq _ _ _ _ _ _ hu hv hq w, Result.andThen, eqIs_ok hT heq hx hy is r h w]
      · rename_i hq
        cases h
        simp [Sem.run_bind, hru, hrv, heq _ _ _ _ _ _ hu hv hq w, Result.andThen]
      · cases h
    · cases h

theorem eqA_ok (hT : TOk P T) {φ : Fi} : ∀ (d D : Nat) (t : TypeId) (a b : AV) (u v : Value) (r : Bool), d ≤ D → VR φ a u → VR φ b v → eqA T d t a b = some r → ∀ w, (Op.equalIn D t u v).run P w = .ok r w
  | 0, _, _, _, _, _, _, _, _, _, _, h => by cases h
  | d + 1, D, t, a, b, u, v, r, hD, ha, hb, h => by
    intro w
    obtain ⟨D', rfl⟩ : ∃ D', D = D' + 1 := ⟨D - 1, by omega⟩
    simp only [eqA] at h
    split at h
    · cases h
    · rename_i i hi
      have hu := (hT t i hi).und
      split at h
      · rename_i x y hd
        obtain rfl := ha.lit_inv
        obtain rfl := hb.lit_inv
        cases h
        exact run_equalIn_bool' w D' t x y (by rw [hu, hd])
      · rename_i k0 k x k' y hd
        split at h
        · rename_i hk; subst hk
          obtain rfl := ha.lit_inv
          obtain rfl := hb.lit_inv
          cases h
          exact run_equalIn_int w D' t k k0 x y (by rw [hu, hd])
        · cases h
      · rename_i fs xs ys hd
        split at h
        · rename_i hf
          obtain ⟨us, rfl, hx⟩ := ha.agg_inv
          obtain ⟨vs, rfl, hy⟩ := hb.agg_inv
          have hfo : P.fieldsOf t = fs := by simp [Program.fieldsOf, hu, hd]
          rw [run_equalIn_struct w D' t _ _ (by rw [hfo, hu, hd]) ((hT t i hi).flat hf).1, hfo]
          exact eqFs_ok hT (fun t a b u v r h1 h2 h3 w => eqA_ok hT d D' t a b u v r (by omega) h1 h2 h3 w) hx hy fs.toList r h w
        · cases h
      · rename_i n e xs ys hd
        split at h
        · rename_i j hj
          obtain ⟨us, rfl, hx⟩ := ha.agg_inv
          obtain ⟨vs, rfl, hy⟩ := hb.agg_inv
          obtain ⟨tj, zj, k1, k2, _⟩ := (hT e j hj).info
          rw [Go.run_equalIn_array w D' _ _ (by rw [hu, hd]) k1]
          have hc : P.cellsOf e = j.size := by simp [Program.cellsOf, k1, k2]
          rw [hc]
          exact eqIs_ok hT (fun t a b u v r h1 h2 h3 w => eqA_ok hT d D' t a b u v r (by omega) h1 h2 h3 w) hx hy (List.range n) r h w
        · cases h
      · cases h
end

theorem eqA_agg {T : Ti} {φ : Fi} {t : TypeId} {i : TI} (hi : T t = some i) (hd : aggD i.desc = true) {d : Nat} {a b : AV} {u v : Value} {r : Bool} (ha : VR φ a u) (hb : VR φ b v) (h : eqA T d t a b = some r) :
    ∃ us vs, u = .agg us ∧ v = .agg vs := by
  cases d with
  | zero => cases h
  | succ d =>
    simp only [eqA, hi] at h
    split at h
    · rename_i hq; rw [hq] at hd; cases hd
    · rename_i hq; rw [hq] at hd; cases hd
    · obtain ⟨us, rfl, _⟩ := ha.agg_inv
      obtain ⟨vs, rfl, _⟩ := hb.agg_inv
      exact ⟨_, _, rfl, rfl⟩
    · obtain ⟨us, rfl, _⟩ := ha.agg_inv
      obtain ⟨vs, rfl, _⟩ := hb.agg_inv
      exact ⟨_, _, rfl, rfl⟩
    · cases h

/-- All light operations. -/
def evG (T : Ti) (h : Hp) (ρ : Operand → AV) (o : Oper) : Option AV :=
  match o.op with
  | .slice t x lo hi mx => sliceA T h t (ρ x) (lo.map ρ) (hi.map ρ) (mx.map ρ)
  | .build t parts => buildA T t (parts.toList.map fun p => (p.1, ρ p.2))
  | .binOp .eql t x y _ => match T t with
    | some i => if i.flat && aggD i.desc then (eqA T 6 t (ρ x) (ρ y)).map fun b => .lit (.bool b) else evL T h ρ o
    | none => evL T h ρ o
  | .binOp .neq t x y _ => match T t with
    | some i => if i.flat && aggD i.desc then (eqA T 6 t (ρ x) (ρ y)).map fun b => .lit (.bool !b) else evL T h ρ o
    | none => evL T h ρ o
  | _ => evL T h ρ o

section
variable {P : Program} {T : Ti}
theorem evG_ok (hT : TOk P T) {φ : Fi} {st : St} {w : World} {ρa : Operand → AV} {ρ : Operand → Value} {o : Oper} {r : AV} (hr : Rel φ st w) (hρ : OpR φ ρa ρ) (h : evG T st.h ρa o = some r) :
    ∃ u, VR φ r u ∧ ∀ w', Same φ st.h w w' → (execOp ρ o).run P w' = .ok (.value u) w' := by
  unfold evG at h
  split at h
  · rename_i t x lo hi mx hx
    obtain ⟨u, h1, h2⟩ := slice_ok (P := P) hT hr hρ h
    exact ⟨u, h1, fun w' _ => by simp [execOp, hx, h2 w', Result.andThen]⟩
  · rename_i t parts hx
    obtain ⟨u, h1, h2⟩ := build_ok (P := P) hT hρ h
    exact ⟨u, h1, fun w' _ => by simp only [execOp, hx, Sem.run_bind, h2 w', Result.andThen, Sem.run_pure]⟩
  · rename_i t x y yt hx
    split at h
    · rename_i i hi
      split at h
      · rename_i hf
        simp only [Bool.and_eq_true] at hf
        rw [Option.map_eq_some_iff] at h
        obtain ⟨b, hb, rfl⟩ := h
        obtain ⟨us, vs, hu, hv⟩ := eqA_agg hi hf.2 (hρ x) (hρ y) hb
        have hq := eqA_ok (P := P) hT 6 10000 t _ _ _ _ b (by omega) (hρ x) (hρ y) hb
        refine ⟨.bool b, .lit _, fun w' _ => ?_⟩
        rw [hu, hv] at hq
        simp [execOp, hx, Sem.run_bind, hu, hv, run_eqGuard_agg w' _ t x y us vs ((hT t i hi).flat hf.1).2, run_eql_struct, hq w', Result.andThen]
      · exact evL_ok hT hr hρ h
    · exact evL_ok hT hr hρ h
  · rename_i t x y yt hx
    split at h
    · rename_i i hi
      split at h
      · rename_i hf
        simp only [Bool.and_eq_true] at hf
        rw [Option.map_eq_some_iff] at h
        obtain ⟨b, hb, rfl⟩ := h
        obtain ⟨us, vs, hu, hv⟩ := eqA_agg hi hf.2 (hρ x) (hρ y) hb
        have hq := eqA_ok (P := P) hT 6 10000 t _ _ _ _ b (by omega) (hρ x) (hρ y) hb
        refine ⟨.bool !b, .lit _, fun w' _ => ?_⟩
        rw [hu, hv] at hq
        simp [execOp, hx, Sem.run_bind, hu, hv, run_eqGuard_agg w' _ t x y us vs ((hT t i hi).flat hf.1).2, run_neq_struct, hq w', Result.andThen]
      · exact evL_ok hT hr hρ h
    · exact evL_ok hT hr hρ h
  · exact evL_ok hT hr hρ h
end
end Go.Ev
