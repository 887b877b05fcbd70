/- Own work of the verifier of watercress: FzE, FzF, FzG. -/
import Derived.Test.YtpefamheopplnaaMm1
import Derived.Laws.Tables
import Derived.ChangeKeysEq
set_option linter.unusedVariables false
set_option linter.unusedSimpArgs false
namespace Go.Fz
def natOf : AV → Option Nat
  | .lit (.int _ n) => if 0 ≤ n then some n.toNat else none
  | _ => none
def natOr (d : Nat) : Option AV → Option Nat
  | none => some d
  | some a => natOf a
def sliceA (T : Ti) (h : Hp) (t : TypeId) (x : AV) (lo hi mx : Option AV) : Option AV :=
  match T t with
  | none => none
  | some i =>
    match i.desc, x with
    | .slice e, .isl len sz ex g => match T e with
      | some j => if j.size = sz then
          match natOr 0 lo, natOr len hi, mx with
          | some l, some u, none => if l ≤ u ∧ u ≤ len then some (.isl (u - l) sz (ex && u == len) (fun i => g (l + i))) else none
          | some l, some u, some m => match hi, natOf m with
            | some _, some k => if l ≤ u ∧ u ≤ k ∧ k ≤ len then some (.isl (u - l) sz (u == k) (fun i => g (l + i))) else none
            | _, _ => none
          | _, _, _ => none
        else none
      | none => none
    | .slice e, .sl id off len sz ex => match T e with
      | some j => if j.size = sz then
          match natOr 0 lo, natOr len hi, mx with
          | some l, some u, none => if l ≤ u ∧ u ≤ len ∧ (l = 0 ∨ l < len) then some (.sl id (off + l * sz) (u - l) sz (ex && u == len)) else if l = len ∧ u = len ∧ ex = true then some (.sl id off 0 sz true) else none
          | some l, some u, some m => match hi, natOf m with
            | some _, some k => if l ≤ u ∧ u ≤ k ∧ k ≤ len then some (if k = l then .sl id off 0 sz true else .sl id (off + l * sz) (u - l) sz (u == k)) else none
            | _, _ => none
          | _, _, _ => none
        else none
      | none => none
    | .slice e, .lit (.slice none 0 0) => match T e with
      | some _ => match natOr 0 lo, natOr 0 hi, mx with
        | some 0, some 0, none => some (.lit (.slice none 0 0))
        | some 0, some 0, some m => match hi, natOf m with
          | some _, some 0 => some (.lit (.slice none 0 0))
          | _, _ => none
        | _, _, _ => none
      | none => none
    | .array n e, .ptr id off => match T e, h.get id with
      | some j, some (.cells _ false cs) =>
        match natOr 0 lo, natOr n hi, mx with
        | some l, some u, none => if l ≤ u ∧ u ≤ n ∧ (l = 0 ∨ l < n) ∧ off + n * j.size ≤ cs.length then some (.sl id (off + l * j.size) (u - l) j.size (u == n)) else none
        | _, _, _ => none
      | _, _ => none
    | _, _ => none
section
variable {P : Program} {T : Ti}
theorem natOf_ok {φ : Fi} {a : AV} {v : Value} {n : Nat} (h : natOf a = some n) (hv : VR φ a v) : ∃ k, v = .int k (n : Int) := by
  unfold natOf at h
  split at h
  · rename_i k m
    split at h
    · cases h; obtain rfl := hv.lit_inv; exact ⟨k, by rw [Int.toNat_of_nonneg (by assumption)]⟩
    · cases h
  · cases h
theorem bound_ok {φ : Fi} {x : AV} {v : Value} {n y : Nat} {c : BoundsCode} (h : natOf x = some n) (hv : VR φ x v) (hy : n ≤ y) (w : World) : (Instr.sliceBound v y c).run P w = .ok n w := by
  obtain ⟨k, rfl⟩ := natOf_ok h hv
  have : (0 : Int) ≤ (n : Int) ∧ (n : Int) ≤ (y : Int) := ⟨by omega, by omega⟩
  simp [Instr.sliceBound, asIntOf, this]
theorem bounds_ok {φ : Fi} {ρa : Operand → AV} {ρ : Operand → Value} (hρ : OpR φ ρa ρ) {s : Bool} {len cap l u m : Nat} {lo hi mx : Option Operand} (h1 : natOr 0 (lo.map ρa) = some l) (h2 : natOr len (hi.map ρa) = some u)
    (h3 : (mx = none ∧ m = cap) ∨ (∃ x, mx = some x ∧ natOf (ρa x) = some m ∧ hi.isSome)) (hl : l ≤ u) (hu : u ≤ m) (hm : m ≤ cap) (w : World) :
    (Instr.sliceBounds s len cap (lo.map ρ) (hi.map ρ) (mx.map ρ)).run P w = .ok (l, u, m) w := by
  unfold Instr.sliceBounds
  rcases h3 with ⟨rfl, rfl⟩ | ⟨x, rfl, hx, hh⟩
  · cases hi with
    | none =>
      simp only [Option.map_none, natOr, Option.some.injEq] at h2
      subst h2
      cases lo with
      | none => simp only [Option.map_none, natOr, Option.some.injEq] at h1; subst h1; simp
      | some a => simp only [Option.map_some, natOr] at h1; simp [bound_ok (P := P) h1 (hρ a) hl w]
    | some b =>
      simp only [Option.map_some, natOr] at h2
      cases lo with
      | none => simp only [Option.map_none, natOr, Option.some.injEq] at h1; subst h1; simp [bound_ok (P := P) h2 (hρ b) hu w]
      | some a => simp only [Option.map_some, natOr] at h1; simp [bound_ok (P := P) h1 (hρ a) hl w, bound_ok (P := P) h2 (hρ b) hu w]
  · cases hi with
    | none => cases hh
    | some b =>
      simp only [Option.map_some, natOr] at h2
      cases lo with
      | none => simp only [Option.map_none, natOr, Option.some.injEq] at h1; subst h1; simp [bound_ok (P := P) h2 (hρ b) hu w, bound_ok (P := P) hx (hρ x) hm w]
      | some a => simp only [Option.map_some, natOr] at h1; simp [bound_ok (P := P) h1 (hρ a) hl w, bound_ok (P := P) h2 (hρ b) hu w, bound_ok (P := P) hx (hρ x) hm w]
theorem slice_ok (hT : TOk P T) {φ : Fi} {st : St} {w : World} {ρa : Operand → AV} {ρ : Operand → Value} {t : TypeId} {x : Operand} {lo hi mx : Option Operand} {r : AV} (hr : Rel φ st w) (hρ : OpR φ ρa ρ)
    (h : sliceA T st.h t (ρa x) (lo.map ρa) (hi.map ρa) (mx.map ρa) = some r) :
    ∃ u, VR φ r u ∧ ∀ w', (Instr.sliceAt t (ρ x) (lo.map ρ) (hi.map ρ) (mx.map ρ)).run P w' = .ok u w' := by
  have hadd : ∀ (b o n : Nat), Addr.add ⟨b, o, none⟩ n = ⟨b, o + n, none⟩ := fun b o n => by unfold Addr.add; split <;> simp_all
  unfold sliceA at h
  split at h
  · cases h
  · rename_i i hi'
    split at h
    · rename_i e len sz ex g hd hx
      split at h
      · rename_i j hj
        split at h
        · rename_i hsz
          subst hsz
          have hxv := hρ x
          rw [hx] at hxv
          have hnew : ∀ (l u m cap b o : Nat) (c : Nat → Option Value) (us : Nat → Nat → Value) (ex' : Bool), l ≤ u → u ≤ len → u ≤ m → m ≤ cap → (ex' = true → m = u) → φ.z b = some c → (∀ i k, i < len → k < j.size → c (o + i * j.size + k) = some (us i k)) →
              (∀ i k, i < len → k < j.size → VR φ (g i k) (us i k)) → VR φ (.isl (u - l) j.size ex' (fun i => g (l + i))) (.slice (some ⟨b, if m = l then o else o + l * j.size, none⟩) (u - l) (m - l)) := fun l u m cap b o c us ex' q1 q2 q3 q4 q5 hz hc hus => by
            refine .isl (u - l) j.size ex' _ b _ (m - l) c (fun i => us (l + i)) hz (fun i k hi hk => ?_) (fun i k hi hk => hus _ _ (by omega) hk) (by omega) (fun h => by have := q5 h; omega)
            rw [if_neg (by omega), ← hc (l + i) k (by omega) hk, Nat.add_mul]
            congr 1; omega
          split at h
          · rename_i l u h1 h2 h3
            split at h
            · rename_i hc
              cases h
              obtain ⟨c1, c2⟩ := hc
              have hmx : mx = none := by cases mx <;> simp_all
              subst hmx
              rcases hxv.isl_inv with ⟨rfl, hv⟩ | ⟨b, o, cap, c, us, hv, hz, hcc, hus, hcap, hex⟩
              · have hu0 : u = 0 := by omega
                have hl0 : l = 0 := by omega
                subst hu0; subst hl0
                have hb := fun w' => bounds_ok (P := P) (s := true) (len := 0) (cap := 0) (m := 0) hρ h1 h2 (.inl ⟨rfl, rfl⟩) c1 (by omega) (Nat.le_refl _) w'
                refine ⟨.slice none 0 0, .isl0 _ _ _, fun w' => ?_⟩
                simp only [Instr.sliceAt, Sem.run_bind, run_und hT hi', hd, Result.andThen, Instr.slice, hv, hb w', run_size hT hj, Sem.run_pure]
                simp
              · have hb := fun w' => bounds_ok (P := P) (s := true) (cap := cap) (m := cap) hρ h1 h2 (.inl ⟨rfl, rfl⟩) c1 (by omega) (Nat.le_refl _) w'
                refine ⟨_, hnew l u cap cap b o c us (ex && u == len) c1 c2 (by omega) (Nat.le_refl _) (fun he => by
                  simp only [Bool.and_eq_true, beq_iff_eq] at he
                  have := hex he.1
                  omega) hz hcc hus, fun w' => ?_⟩
                simp only [Instr.sliceAt, Sem.run_bind, run_und hT hi', hd, Result.andThen, Instr.slice, hv, hb w', run_size hT hj, Sem.run_pure]
                by_cases hl : cap = l
                · subst hl; simp
                · rw [if_neg hl, if_neg hl]
                  simp [hadd]
            · cases h
          · rename_i l u m h1 h2 h3
            split at h
            · rename_i b k hb hk
              split at h
              · rename_i hc
                cases h
                obtain ⟨c1, c2, c3⟩ := hc
                obtain ⟨y, rfl, hy⟩ : ∃ y, mx = some y ∧ ρa y = m := by cases mx <;> simp_all
                rw [← hy] at hk
                have hhi : hi.isSome := by cases hi <;> simp_all
                rcases hxv.isl_inv with ⟨rfl, hv⟩ | ⟨b, o, cap, c, us, hv, hz, hcc, hus, hcap, hex⟩
                · have hk0 : k = 0 := by omega
                  have hu0 : u = 0 := by omega
                  have hl0 : l = 0 := by omega
                  subst hu0; subst hl0; subst hk0
                  have hb' := fun w' => bounds_ok (P := P) (s := true) (len := 0) (cap := 0) hρ h1 h2 (.inr ⟨y, rfl, hk, hhi⟩) c1 c2 (Nat.le_refl _) w'
                  refine ⟨.slice none 0 0, .isl0 _ _ _, fun w' => ?_⟩
                  simp only [Instr.sliceAt, Sem.run_bind, run_und hT hi', hd, Result.andThen, Instr.slice, hv, hb' w', run_size hT hj, Sem.run_pure]
                  simp
                · have hb' := fun w' => bounds_ok (P := P) (s := true) (cap := cap) hρ h1 h2 (.inr ⟨y, rfl, hk, hhi⟩) c1 c2 (by omega) w'
                  refine ⟨_, hnew l u k cap b o c us (u == k) c1 (by omega) c2 (by omega) (fun he => by simp only [beq_iff_eq] at he; omega) hz hcc hus, fun w' => ?_⟩
                  simp only [Instr.sliceAt, Sem.run_bind, run_und hT hi', hd, Result.andThen, Instr.slice, hv, hb' w', run_size hT hj, Sem.run_pure]
                  by_cases hl : k = l
                  · subst hl; simp
                  · rw [if_neg hl, if_neg hl]
                    simp [hadd]
              · cases h
            · cases h
          · cases h
        · cases h
      · cases h
    · rename_i e id off len sz ex hd hx
      split at h
      · rename_i j hj
        split at h
        · rename_i hsz
          subst hsz
          have hxv := hρ x
          rw [hx] at hxv
          obtain ⟨cap, hv, hid, hcap, hex, hbnd⟩ := hxv.sl_inv
          split at h
          · rename_i l u h1 h2 h3
            split at h
            · rename_i hc
              cases h
              obtain ⟨c1, c2, c3⟩ := hc
              have hmx : mx = none := by cases mx <;> simp_all
              subst hmx
              have hb := fun w' => bounds_ok (P := P) (s := true) (cap := cap) (m := cap) hρ h1 h2 (.inl ⟨rfl, rfl⟩) c1 (by omega) (Nat.le_refl _) w'
              refine ⟨.slice (some ⟨(φ.f id).b, (φ.f id).o + (off + l * j.size), none⟩) (u - l) (cap - l), .sl id (off + l * j.size) (u - l) j.size _ (cap - l) hid (by omega) (fun he => ?_) ?_, fun w' => ?_⟩
              · simp only [Bool.and_eq_true, beq_iff_eq] at he
                have := hex he.1
                omega
              · have : l * j.size + (cap - l) * j.size = cap * j.size := by rw [← Nat.add_mul]; congr 1; omega
                omega
              · simp only [Instr.sliceAt, Sem.run_bind, run_und hT hi', hd, Result.andThen, Instr.slice, hv, hb w', run_size hT hj, Sem.run_pure]
                by_cases hl : cap = l
                · have hl0 : l = 0 := by omega
                  have hc0 : cap = 0 := by omega
                  subst hl0; subst hc0
                  simp
                · rw [if_neg hl]
                  simp [hadd, Nat.add_assoc]
            · split at h
              · rename_i hc
                cases h
                obtain ⟨rfl, rfl, rfl⟩ := hc
                have hmx : mx = none := by cases mx <;> simp_all
                subst hmx
                have hcl := hex rfl
                have hb := fun w' => bounds_ok (P := P) (s := true) (cap := cap) (m := cap) hρ h1 h2 (.inl ⟨rfl, rfl⟩) (Nat.le_refl _) (by omega) (Nat.le_refl _) w'
                refine ⟨.slice (some ⟨(φ.f id).b, (φ.f id).o + off, none⟩) 0 0, .sl id off 0 j.size true 0 hid (Nat.le_refl _) (fun _ => rfl) (by omega), fun w' => ?_⟩
                simp only [Instr.sliceAt, Sem.run_bind, run_und hT hi', hd, Result.andThen, Instr.slice, hv, hb w', run_size hT hj, Sem.run_pure]
                simp [hcl]
              · cases h
          · rename_i l u m h1 h2 h3
            split at h
            · rename_i b k hb hk
              split at h
              · rename_i hc
                cases h
                obtain ⟨c1, c2, c3⟩ := hc
                obtain ⟨y, rfl, hy⟩ : ∃ y, mx = some y ∧ ρa y = m := by cases mx <;> simp_all
                rw [← hy] at hk
                have hhi : hi.isSome := by cases hi <;> simp_all
                have hb' := fun w' => bounds_ok (P := P) (s := true) (cap := cap) hρ h1 h2 (.inr ⟨y, rfl, hk, hhi⟩) c1 c2 (by omega) w'
                by_cases hl : k = l
                · subst hl
                  rw [if_pos rfl]
                  refine ⟨.slice (some ⟨(φ.f id).b, (φ.f id).o + off, none⟩) 0 0, .sl id off 0 j.size true 0 hid (Nat.le_refl _) (fun _ => rfl) (by omega), fun w' => ?_⟩
                  simp only [Instr.sliceAt, Sem.run_bind, run_und hT hi', hd, Result.andThen, Instr.slice, hv, hb' w', run_size hT hj, Sem.run_pure, if_true]
                  simp; omega
                · rw [if_neg hl]
                  refine ⟨.slice (some ⟨(φ.f id).b, (φ.f id).o + (off + l * j.size), none⟩) (u - l) (k - l), .sl id (off + l * j.size) (u - l) j.size _ (k - l) hid (by omega) (fun he => ?_) ?_, fun w' => ?_⟩
                  · simp only [beq_iff_eq] at he; omega
                  · have : l * j.size + (k - l) * j.size = k * j.size := by rw [← Nat.add_mul]; congr 1; omega
                    have h5 : k * j.size ≤ cap * j.size := Nat.mul_le_mul_right _ (by omega)
                    omega
                  · simp only [Instr.sliceAt, Sem.run_bind, run_und hT hi', hd, Result.andThen, Instr.slice, hv, hb' w', run_size hT hj, Sem.run_pure]
                    rw [if_neg hl]
                    simp [hadd, Nat.add_assoc]
              · cases h
            · cases h
          · cases h
        · cases h
      · cases h
    · rename_i e hd hx
      split at h
      · rename_i j hj
        have hv : ρ x = .slice none 0 0 := by have := hρ x; rw [hx] at this; exact this.lit_inv
        split at h
        · rename_i h1 h2 h3
          cases h
          have hmx : mx = none := by cases mx <;> simp_all
          subst hmx
          have hb := fun w' => bounds_ok (P := P) (s := true) (cap := 0) (m := 0) hρ h1 h2 (.inl ⟨rfl, rfl⟩) (Nat.le_refl _) (Nat.le_refl _) (Nat.le_refl _) w'
          refine ⟨_, .lit _, fun w' => ?_⟩
          simp only [Instr.sliceAt, Sem.run_bind, run_und hT hi', hd, Result.andThen, Instr.slice, hv, hb w', run_size hT hj, Sem.run_pure]
          simp
        · rename_i m h1 h2 h3
          split at h
          · rename_i b hb hk
            cases h
            obtain ⟨y, rfl, hy⟩ : ∃ y, mx = some y ∧ ρa y = m := by cases mx <;> simp_all
            rw [← hy] at hk
            have hhi : hi.isSome := by cases hi <;> simp_all
            have hb' := fun w' => bounds_ok (P := P) (s := true) (cap := 0) hρ h1 h2 (.inr ⟨y, rfl, hk, hhi⟩) (Nat.le_refl _) (Nat.le_refl _) (Nat.le_refl _) w'
            refine ⟨_, .lit _, fun w' => ?_⟩
            simp only [Instr.sliceAt, Sem.run_bind, run_und hT hi', hd, Result.andThen, Instr.slice, hv, hb' w', run_size hT hj, Sem.run_pure]
            simp
          · cases h
        · cases h
      · cases h
    · rename_i n e id off hd hx
      split at h
      · rename_i j fm cs hj ho
        have hxv := hρ x
        rw [hx] at hxv
        obtain ⟨hv, hid⟩ := hxv.ptr_inv
        obtain ⟨_, hblk⟩ := hr.obj id _ ho
        obtain ⟨c, ct, hb0, hcn, hcl⟩ := hblk rfl
        split at h
        · rename_i l u h1 h2 h3
          split at h
          · rename_i hc
            cases h
            obtain ⟨c1, c2, c3, c4⟩ := hc
            have hmx : mx = none := by cases mx <;> simp_all
            subst hmx
            have hb := fun w' => bounds_ok (P := P) (s := false) (len := n) (cap := n) (m := n) hρ h1 h2 (.inl ⟨rfl, rfl⟩) c1 (by omega) (Nat.le_refl _) w'
            refine ⟨.slice (some ⟨(φ.f id).b, (φ.f id).o + (off + l * j.size), none⟩) (u - l) (n - l), .sl id (off + l * j.size) (u - l) j.size _ (n - l) hid (by omega) (fun he => ?_) ?_, fun w' => ?_⟩
            · simp only [beq_iff_eq] at he; omega
            · have : l * j.size + (n - l) * j.size = n * j.size := by rw [← Nat.add_mul]; congr 1; omega
              omega
            · simp only [Instr.sliceAt, Sem.run_bind, run_und hT hi', hd, Result.andThen, hv, Instr.sureAddr, hb w', run_size hT hj, Sem.run_pure]
              by_cases hl : n = l
              · have hl0 : l = 0 := by omega
                have hn0 : n = 0 := by omega
                subst hl0; subst hn0
                simp
              · rw [if_neg hl]
                simp [hadd, Nat.add_assoc]
          · cases h
        · cases h
      · cases h
    · cases h
end
def placesA (T : Ti) : List Field → Option (List (Nat × Nat))
  | [] => some []
  | f :: fs => match T f.type, placesA T fs with
    | some i, some r => some ((f.offset, i.size) :: r)
    | _, _ => none
def buildA (T : Ti) (t : TypeId) (parts : List (Nat × AV)) : Option AV :=
  match T t with
  | none => none
  | some i => match i.desc with
    | .struct fs => match placesA T fs.toList with
      | some places => (fillA (fun k => places[k]?) (i.zero.map .lit) parts).map .agg
      | none => none
    | .array _ e => match T e with
      | some j => (fillA (fun k => some (k * j.size, j.size)) (i.zero.map .lit) parts).map .agg
      | none => none
    | _ => none
section
variable {P : Program} {T : Ti}
theorem places_ok (hT : TOk P T) : ∀ (fs : List Field) (places : List (Nat × Nat)), placesA T fs = some places → fs.mapM (fun f => (P.info? f.type).map fun i => (f.offset, i.size)) = some places
  | [], places, h => by simp only [placesA, Option.some.injEq] at h; subst h; rfl
  | f :: fs, places, h => by
    simp only [placesA] at h
    split at h
    · rename_i i r hi hr
      cases h
      obtain ⟨ti, z, h1, h2, _⟩ := (hT _ i hi).info
      simp [List.mapM_cons, h1, h2, places_ok hT fs r hr]
    · cases h
theorem build_ok (hT : TOk P T) {φ : Fi} {ρa : Operand → AV} {ρ : Operand → Value} (hρ : OpR φ ρa ρ) {t : TypeId} {parts : Array (Nat × Operand)} {r : AV} (h : buildA T t (parts.toList.map fun p => (p.1, ρa p.2)) = some r) :
    ∃ u, VR φ r u ∧ ∀ w, (Instr.build t (parts.map fun (i, x) => (i, ρ x))).run P w = .ok u w := by
  have hpm : (Array.map (fun (x : Nat × Operand) => (x.1, ρ x.2)) parts).toList = parts.toList.map fun p => (p.1, ρ p.2) := by simp
  unfold buildA at h
  split at h
  · cases h
  · rename_i i hi
    obtain ⟨ti, z, h1, h2, h3, h4, h5⟩ := (hT t i hi).info
    have hu := (hT t i hi).und
    have hzl : VRL φ (i.zero.map .lit) z.cells.toList := by rw [h5]; exact VRL.lits _
    split at h
    · rename_i fs hd
      split at h
      · rename_i places hp
        rw [Option.map_eq_some_iff] at h
        obtain ⟨cs, hf, rfl⟩ := h
        obtain ⟨rs, g1, g2⟩ := fill_ok hρ parts.toList hzl hf
        refine ⟨_, .agg g2, fun w => run_build w t _ _ ?_⟩
        rw [hd] at hu
        simp only [Program.built, h1, hu, h4, places_ok hT fs.toList places hp, hpm]
        simpa using g1
      · cases h
    · rename_i n e hd
      split at h
      · rename_i j hj
        rw [Option.map_eq_some_iff] at h
        obtain ⟨cs, hf, rfl⟩ := h
        obtain ⟨rs, g1, g2⟩ := fill_ok hρ parts.toList hzl hf
        obtain ⟨tj, zj, k1, k2, _⟩ := (hT e j hj).info
        refine ⟨_, .agg g2, fun w => run_build w t _ _ ?_⟩
        rw [hd] at hu
        simp only [Program.built, h1, hu, h4, k1, k2, hpm]
        simpa using g1
      · cases h
    · cases h
end
def eqFsA (T : Ti) (eq : TypeId → AV → AV → Option Bool) (xs ys : List AV) : List Field → Option Bool
  | [] => some true
  | f :: fs =>
    if f.name ≠ "_" then
      match partA T f.type xs f.offset, partA T f.type ys f.offset with
      | some a, some b => match eq f.type a b with
        | some true => eqFsA T eq xs ys fs
        | some false => some false
        | none => none
      | _, _ => none
    else eqFsA T eq xs ys fs
def eqIsA (T : Ti) (eq : TypeId → AV → AV → Option Bool) (e : TypeId) (sz : Nat) (xs ys : List AV) : List Nat → Option Bool
  | [] => some true
  | i :: is =>
    match partA T e xs (i * sz), partA T e ys (i * sz) with
    | some a, some b => match eq e a b with
      | some true => eqIsA T eq e sz xs ys is
      | some false => some false
      | none => none
    | _, _ => none
def boolOf : AV → Option Bool
  | .lit (.bool b) => some b
  | .sb b => some b
  | _ => none
theorem boolOf_ok {φ : Fi} {a : AV} {b : Bool} {u : Value} (h : boolOf a = some b) (hv : VR φ a u) : u = .bool b := by
  unfold boolOf at h
  split at h
  · cases h; exact hv.lit_inv
  · cases h; exact hv.sb_inv
  · cases h
def eqA (T : Ti) : Nat → TypeId → AV → AV → Option Bool
  | 0, _, _, _ => none
  | d + 1, t, a, b =>
    match T t with
    | none => none
    | some i => match i.desc, a, b with
      | .bool, a, b => match boolOf a, boolOf b with
        | some x, some y => some (x == y)
        | _, _ => none
      | .int _, .lit (.int k x), .lit (.int k' y) => if k = k' then some (x == y) else none
      | .struct fs, .agg xs, .agg ys => if i.flat then eqFsA T (eqA T d) xs ys fs.toList else none
      | .array n e, .agg xs, .agg ys => match T e with
        | some j => eqIsA T (eqA T d) e j.size xs ys (List.range n)
        | none => none
      | _, _, _ => none
section
variable {P : Program} {T : Ti}
theorem eqFs_ok (hT : TOk P T) {φ : Fi} {eq : TypeId → AV → AV → Option Bool} {D : Nat} (heq : ∀ t a b u v r, VR φ a u → VR φ b v → eq t a b = some r → ∀ w, (Op.equalIn D t u v).run P w = .ok r w)
    {xs ys : List AV} {us vs : List Value} (hx : VRL φ xs us) (hy : VRL φ ys vs) : ∀ (fs : List Field) (r : Bool), eqFsA T eq xs ys fs = some r → ∀ w, (Op.eqFields D us.toArray vs.toArray fs).run P w = .ok r w
  | [], r, h, w => by simp only [eqFsA, Option.some.injEq] at h; subst h; rfl
  | f :: fs, r, h, w => by
    simp only [eqFsA] at h
    simp only [Op.eqFields]
    split at h
    · rename_i hn
      rw [if_pos hn]
      split at h
      · rename_i a b ha hb
        obtain ⟨u, hu, hru⟩ := part_ok (P := P) hT hx ha
        obtain ⟨v, hv, hrv⟩ := part_ok (P := P) hT hy hb
        split at h
        · rename_i hq
          simp [Sem.run_bind, hru, hrv, heq _ _ _ _ _ _ hu hv hq w, Result.andThen, eqFs_ok hT heq hx hy fs r h w]
        · rename_i hq
          cases h
          simp [Sem.run_bind, hru, hrv, heq _ _ _ _ _ _ hu hv hq w, Result.andThen]
        · cases h
      · cases h
    · rename_i hn
      rw [if_neg hn]
      exact eqFs_ok hT heq hx hy fs r h w
theorem eqIs_ok (hT : TOk P T) {φ : Fi} {eq : TypeId → AV → AV → Option Bool} {D : Nat} (heq : ∀ t a b u v r, VR φ a u → VR φ b v → eq t a b = some r → ∀ w, (Op.equalIn D t u v).run P w = .ok r w)
    {e : TypeId} {sz : Nat} {xs ys : List AV} {us vs : List Value} (hx : VRL φ xs us) (hy : VRL φ ys vs) : ∀ (is : List Nat) (r : Bool), eqIsA T eq e sz xs ys is = some r → ∀ w, (Op.eqItems D e sz us.toArray vs.toArray is).run P w = .ok r w
  | [], r, h, w => by simp only [eqIsA, Option.some.injEq] at h; subst h; rfl
  | i :: is, r, h, w => by
    simp only [eqIsA] at h
    simp only [Op.eqItems]
    split at h
    · rename_i a b ha hb
      obtain ⟨u, hu, hru⟩ := part_ok (P := P) hT hx ha
      obtain ⟨v, hv, hrv⟩ := part_ok (P := P) hT hy hb
      split at h
      · rename_i hq
        simp [Sem.run_bind, hru, hrv, heq _ _ _ _ _ _ hu hv hq w, Result.andThen, eqIs_ok hT heq hx hy is r h w]
      · rename_i hq
        cases h
        simp [Sem.run_bind, hru, hrv, heq _ _ _ _ _ _ hu hv hq w, Result.andThen]
      · cases h
    · cases h
theorem eqA_ok (hT : TOk P T) {φ : Fi} : ∀ (d D : Nat) (t : TypeId) (a b : AV) (u v : Value) (r : Bool), d ≤ D → VR φ a u → VR φ b v → eqA T d t a b = some r → ∀ w, (Op.equalIn D t u v).run P w = .ok r w
  | 0, _, _, _, _, _, _, _, _, _, _, h => by cases h
  | d + 1, D, t, a, b, u, v, r, hD, ha, hb, h => by
    intro w
    obtain ⟨D', rfl⟩ : ∃ D', D = D' + 1 := ⟨D - 1, by omega⟩
    simp only [eqA] at h
    split at h
    · cases h
    · rename_i i hi
      have hu := (hT t i hi).und
      split at h
      · rename_i hd
        split at h
        · rename_i x y h1 h2
          obtain rfl := boolOf_ok h1 ha
          obtain rfl := boolOf_ok h2 hb
          cases h
          exact run_equalIn_bool' w D' t x y (by rw [hu, hd])
        · cases h
      · rename_i k0 k x k' y hd
        split at h
        · rename_i hk; subst hk
          obtain rfl := ha.lit_inv
          obtain rfl := hb.lit_inv
          cases h
          exact run_equalIn_int w D' t k k0 x y (by rw [hu, hd])
        · cases h
      · rename_i fs xs ys hd
        split at h
        · rename_i hf
          obtain ⟨us, rfl, hx⟩ := ha.agg_inv
          obtain ⟨vs, rfl, hy⟩ := hb.agg_inv
          have hfo : P.fieldsOf t = fs := by simp [Program.fieldsOf, hu, hd]
          rw [run_equalIn_struct w D' t _ _ (by rw [hfo, hu, hd]) ((hT t i hi).flat hf).1, hfo]
          exact eqFs_ok hT (fun t a b u v r h1 h2 h3 w => eqA_ok hT d D' t a b u v r (by omega) h1 h2 h3 w) hx hy fs.toList r h w
        · cases h
      · rename_i n e xs ys hd
        split at h
        · rename_i j hj
          obtain ⟨us, rfl, hx⟩ := ha.agg_inv
          obtain ⟨vs, rfl, hy⟩ := hb.agg_inv
          obtain ⟨tj, zj, k1, k2, _⟩ := (hT e j hj).info
          rw [Go.run_equalIn_array w D' _ _ (by rw [hu, hd]) k1]
          have hc : P.cellsOf e = j.size := by simp [Program.cellsOf, k1, k2]
          rw [hc]
          exact eqIs_ok hT (fun t a b u v r h1 h2 h3 w => eqA_ok hT d D' t a b u v r (by omega) h1 h2 h3 w) hx hy (List.range n) r h w
        · cases h
      · cases h
end
theorem eqA_agg {T : Ti} {φ : Fi} {t : TypeId} {i : TI} (hi : T t = some i) (hd : aggD i.desc = true) {d : Nat} {a b : AV} {u v : Value} {r : Bool} (ha : VR φ a u) (hb : VR φ b v) (h : eqA T d t a b = some r) :
    ∃ us vs, u = .agg us ∧ v = .agg vs := by
  cases d with
  | zero => cases h
  | succ d =>
    simp only [eqA, hi] at h
    split at h
    · rename_i hq; rw [hq] at hd; cases hd
    · rename_i hq; rw [hq] at hd; cases hd
    · obtain ⟨us, rfl, _⟩ := ha.agg_inv
      obtain ⟨vs, rfl, _⟩ := hb.agg_inv
      exact ⟨_, _, rfl, rfl⟩
    · obtain ⟨us, rfl, _⟩ := ha.agg_inv
      obtain ⟨vs, rfl, _⟩ := hb.agg_inv
      exact ⟨_, _, rfl, rfl⟩
    · cases h
def boolPair (T : Ti) (t : TypeId) (a b : AV) : Option (Bool × Bool) := match T t with
  | some i => match i.desc with
    | .bool => match boolOf a, boolOf b with
      | some x, some y => some (x, y)
      | _, _ => none
    | _ => none
  | none => none
def evG (T : Ti) (h : Hp) (ρ : Operand → AV) (o : Oper) : Option AV :=
  match o.op with
  | .slice t x lo hi mx => sliceA T h t (ρ x) (lo.map ρ) (hi.map ρ) (mx.map ρ)
  | .build t parts => buildA T t (parts.toList.map fun p => (p.1, ρ p.2))
  | .binOp .eql t x y _ => match boolPair T t (ρ x) (ρ y) with
    | some (a, c) => some (.sb (a == c))
    | none => match T t with
    | some i => if i.flat && aggD i.desc then (eqA T 6 t (ρ x) (ρ y)).map fun b => .sb b else evL T h ρ o
    | none => evL T h ρ o
  | .binOp .neq t x y _ => match boolPair T t (ρ x) (ρ y) with
    | some (a, c) => some (.sb (a != c))
    | none => match T t with
    | some i => if i.flat && aggD i.desc then (eqA T 6 t (ρ x) (ρ y)).map fun b => .sb !b else evL T h ρ o
    | none => evL T h ρ o
  | _ => evL T h ρ o
section
variable {P : Program} {T : Ti}
theorem boolPair_ok (hT : TOk P T) {φ : Fi} {t : TypeId} {a b : AV} {u v : Value} {p : Bool × Bool} (ha : VR φ a u) (hb : VR φ b v) (h : boolPair T t a b = some p) :
    u = .bool p.1 ∧ v = .bool p.2 ∧ ∀ w, (Op.equal t u v).run P w = .ok (p.1 == p.2) w := by
  unfold boolPair at h
  split at h
  · rename_i i hi
    split at h
    · rename_i hd
      split at h
      · rename_i x y hx hy
        cases h
        obtain rfl := boolOf_ok hx ha
        obtain rfl := boolOf_ok hy hb
        refine ⟨rfl, rfl, fun w => ?_⟩
        exact eqA_ok (P := P) hT 1 _ t (.lit (.bool x)) (.lit (.bool y)) _ _ _ (by decide) (.lit (φ := φ) _) (.lit _) (by simp [eqA, hi, hd, boolOf]) w
      · cases h
    · cases h
  · cases h
theorem evG_ok (hT : TOk P T) {φ : Fi} {st : St} {w : World} {ρa : Operand → AV} {ρ : Operand → Value} {o : Oper} {r : AV} (hr : Rel φ st w) (hρ : OpR φ ρa ρ) (h : evG T st.h ρa o = some r) :
    ∃ u, VR φ r u ∧ ∀ w', Same φ st.h w w' → (execOp ρ o).run P w' = .ok (.value u) w' := by
  unfold evG at h
  split at h
  · rename_i t x lo hi mx hx
    obtain ⟨u, h1, h2⟩ := slice_ok (P := P) hT hr hρ h
    exact ⟨u, h1, fun w' _ => by simp [execOp, hx, h2 w', Result.andThen]⟩
  · rename_i t parts hx
    obtain ⟨u, h1, h2⟩ := build_ok (P := P) hT hρ h
    exact ⟨u, h1, fun w' _ => by simp only [execOp, hx, Sem.run_bind, h2 w', Result.andThen, Sem.run_pure]⟩
  · rename_i t x y yt hx
    split at h
    · rename_i a c hbp
      cases h
      obtain ⟨h1, h2, h3⟩ := boolPair_ok (P := P) hT (hρ x) (hρ y) hbp
      simp only at h1 h2 h3
      refine ⟨_, .sb _, fun w' _ => ?_⟩
      have h4 := h3 w'
      rw [h1, h2] at h4
      have hg : (eqGuard .eql t x y (.bool a) (.bool c)).run P w' = .ok () w' := by
        unfold eqGuard
        split <;> simp
      simp [execOp, hx, h1, h2, Sem.run_bind, hg, binOp, h4, Result.andThen, bne]
    split at h
    · rename_i i hi
      split at h
      · rename_i hf
        simp only [Bool.and_eq_true] at hf
        rw [Option.map_eq_some_iff] at h
        obtain ⟨b, hb, rfl⟩ := h
        obtain ⟨us, vs, hu, hv⟩ := eqA_agg hi hf.2 (hρ x) (hρ y) hb
        have hq := eqA_ok (P := P) hT 6 10000 t _ _ _ _ b (by omega) (hρ x) (hρ y) hb
        refine ⟨.bool b, .sb _, fun w' _ => ?_⟩
        rw [hu, hv] at hq
        simp [execOp, hx, Sem.run_bind, hu, hv, run_eqGuard_agg w' _ t x y us vs ((hT t i hi).flat hf.1).2, run_eql_struct, hq w', Result.andThen]
      · exact evL_ok hT hr hρ h
    · exact evL_ok hT hr hρ h
  · rename_i t x y yt hx
    split at h
    · rename_i a c hbp
      cases h
      obtain ⟨h1, h2, h3⟩ := boolPair_ok (P := P) hT (hρ x) (hρ y) hbp
      simp only at h1 h2 h3
      refine ⟨_, .sb _, fun w' _ => ?_⟩
      have h4 := h3 w'
      rw [h1, h2] at h4
      have hg : (eqGuard .neq t x y (.bool a) (.bool c)).run P w' = .ok () w' := by
        unfold eqGuard
        split <;> simp
      simp [execOp, hx, h1, h2, Sem.run_bind, hg, binOp, h4, Result.andThen, bne]
    split at h
    · rename_i i hi
      split at h
      · rename_i hf
        simp only [Bool.and_eq_true] at hf
        rw [Option.map_eq_some_iff] at h
        obtain ⟨b, hb, rfl⟩ := h
        obtain ⟨us, vs, hu, hv⟩ := eqA_agg hi hf.2 (hρ x) (hρ y) hb
        have hq := eqA_ok (P := P) hT 6 10000 t _ _ _ _ b (by omega) (hρ x) (hρ y) hb
        refine ⟨.bool !b, .sb _, fun w' _ => ?_⟩
        rw [hu, hv] at hq
        simp [execOp, hx, Sem.run_bind, hu, hv, run_eqGuard_agg w' _ t x y us vs ((hT t i hi).flat hf.1).2, run_neq_struct, hq w', Result.andThen]
      · exact evL_ok hT hr hρ h
    · exact evL_ok hT hr hρ h
  · exact evL_ok hT hr hρ h
end
end Go.Fz
namespace Go.Fz
structure Fm where
  ts : Ts
  dm : List Nat
def Fm.put (f : Fm) (dst : Option Tmp) (v : AV) : Fm :=
  match dst with
  | some d => ⟨f.ts.put d v, f.dm⟩
  | none => f
structure ActR (φ : Fi) (f : Fm) (a : Act) : Prop where
  ts : TsR φ f.ts a.tmps
  dm : a.defers = f.dm.map fun id => { target := .collected (φ.f id).b, args := #[] }
  lt : ∀ id ∈ f.dm, id < φ.n
theorem ActR.mono {φ φ' : Fi} {f : Fm} {a : Act} (he : Ext φ φ') (h : ActR φ f a) : ActR φ' f a :=
  ⟨h.ts.mono he, by rw [h.dm]; exact List.map_congr_left fun id hi => by rw [he.f id (h.lt id hi)], fun id hi => Nat.lt_of_lt_of_le (h.lt id hi) he.n⟩
theorem ActR.put {φ : Fi} {f : Fm} {a : Act} (h : ActR φ f a) (dst : Option Tmp) {v : AV} {u : Value} (hv : VR φ v u) : ActR φ (f.put dst v) (a.put dst u) := by
  cases dst with
  | none => exact h
  | some d => exact ⟨h.ts.put d hv, h.dm, h.lt⟩
def FW (r : Option Nat) : Fence := { fn := fun _ => True, depth := none, alive := false, round := r }
def rdB (φ : Fi) (rd : Option Nat) : Option Nat := rd.map fun id => (φ.f id).b
theorem rdB_ext {φ φ' : Fi} (he : Ext φ φ') {rd : Option Nat} (h : ∀ id, rd = some id → id < φ.n) : rdB φ' rd = rdB φ rd := by
  cases rd with
  | none => rfl
  | some id => simp [rdB, he.f id (h id rfl)]
def Lift (φ : Fi) (st : St) (w : World) (Q : Exit → Fm → St → Prop) : Exit → Act → World → Prop :=
  fun e a w' => ∃ f' st' φ', Q e f' st' ∧ Ext φ φ' ∧ Rel φ' st' w' ∧ ActR φ' f' a ∧ Fr φ st w φ' st' w'
theorem Lift.trans {φ φ' : Fi} {st st' : St} {w w' : World} {Q : Exit → Fm → St → Prop} {e : Exit} {a : Act} {w'' : World} (he : Ext φ φ') (hf : Fr φ st w φ' st' w') (h : Lift φ' st' w' Q e a w'') : Lift φ st w Q e a w'' := by
  obtain ⟨f2, st2, φ2, hq, he2, hr2, ha2, hf2⟩ := h
  exact ⟨f2, st2, φ2, hq, he.trans he2, hr2, ha2, hf.trans hf2⟩
variable (P : Program) (T : Ti)
def SW (rd : Option Nat) (c : Code) (Q : Exit → Fm → St → Prop) (f : Fm) (st : St) : Prop :=
  ∀ (φ : Fi) (w : World) (a : Act) (n : Nat), (∀ id, rd = some id → id < φ.n) → Rel φ st w → ActR φ f a → c.wpIn (FW (rdB φ rd)) n P (Lift φ st w Q) a w
def OpsW (rd : Option Nat) (ops : Array Oper) (l : List Nat) (K : Fm → St → Prop) (f : Fm) (st : St) : Prop :=
  ∀ (φ : Fi) (w : World) (a : Act) (n : Nat) (Q : Exit → Act → World → Prop), (∀ id, rd = some id → id < φ.n) → Rel φ st w → ActR φ f a →
    (∀ a' w', Lift φ st w (fun _ f' st' => K f' st') .normal a' w' → Q .normal a' w') → wpOpsIn (FW (rdB φ rd)) n P ops Q l a w
variable {P T}
theorem SW.mono {rd : Option Nat} {c : Code} {Q Q' : Exit → Fm → St → Prop} {f : Fm} {st : St} (h : SW P rd c Q f st) (hq : ∀ e f st, Q e f st → Q' e f st) : SW P rd c Q' f st :=
  fun φ w a n h1 h2 h3 => wpIn_mono (h φ w a n h1 h2 h3) fun _ _ _ ⟨f', st', φ', k, r⟩ => ⟨f', st', φ', hq _ _ _ k, r⟩
theorem Lift.here {φ : Fi} {st : St} {w : World} {Q : Exit → Fm → St → Prop} {e : Exit} {f : Fm} {a : Act} (hq : Q e f st) (hr : Rel φ st w) (ha : ActR φ f a) : Lift φ st w Q e a w :=
  ⟨f, st, φ, hq, Ext.refl _, hr, ha, Fr.refl _ _ _⟩
theorem SW.skip {rd : Option Nat} {Q : Exit → Fm → St → Prop} {f : Fm} {st : St} (h : Q .normal f st) : SW P rd .skip Q f st :=
  fun _ _ _ _ _ h2 h3 => wpIn_skip (Lift.here h h2 h3)
theorem SW.label {rd : Option Nat} {l : Nat} {Q : Exit → Fm → St → Prop} {f : Fm} {st : St} (h : Q .normal f st) : SW P rd (.label l) Q f st :=
  fun _ _ _ _ _ h2 h3 => wpIn_label (Lift.here h h2 h3)
theorem SW.exit {rd : Option Nat} {id : Nat} {Q : Exit → Fm → St → Prop} {f : Fm} {st : St} (h : Q (.exit id) f st) : SW P rd (.exit id) Q f st :=
  fun _ _ _ _ _ h2 h3 => wpIn_exit (Lift.here h h2 h3)
theorem SW.ret {rd : Option Nat} {Q : Exit → Fm → St → Prop} {f : Fm} {st : St} (h : Q .ret f st) : SW P rd .ret Q f st :=
  fun _ _ _ _ _ h2 h3 => wpIn_ret (Lift.here h h2 h3)
def thenQ (K : Fm → St → Prop) (Q : Exit → Fm → St → Prop) : Exit → Fm → St → Prop
  | .normal, f, st => K f st
  | e, f, st => Q e f st
theorem SW.seq {rd : Option Nat} {x y : Code} {Q : Exit → Fm → St → Prop} {f : Fm} {st : St} (h : SW P rd x (thenQ (SW P rd y Q) Q) f st) : SW P rd (.seq x y) Q f st := by
  intro φ w a n h1 h2 h3
  refine wpIn_seq (wpIn_mono (h φ w a n h1 h2 h3) fun e a' w' hq => ?_)
  obtain ⟨f', st', φ', k, he, hr, ha, hf⟩ := hq
  cases e with
  | normal =>
    have := k φ' w' a' n (fun id hi => Nat.lt_of_lt_of_le (h1 id hi) he.n) hr ha
    rw [rdB_ext he h1] at this
    exact wpIn_mono this fun e a w h => h.trans he hf
  | exit id => exact ⟨f', st', φ', k, he, hr, ha, hf⟩
  | goto id => exact ⟨f', st', φ', k, he, hr, ha, hf⟩
  | ret => exact ⟨f', st', φ', k, he, hr, ha, hf⟩
  | panic c => exact ⟨f', st', φ', k, he, hr, ha, hf⟩
  | outgrown => exact ⟨f', st', φ', k, he, hr, ha, hf⟩
theorem eval_bool {φ : Fi} {f : Fm} {a : Act} (h : ActR φ f a) {c : Operand} {t : Bool} (hc : Operand.av f.ts c = .lit (.bool t)) : a.eval c = .bool t := by
  have := opR_of h.ts c
  rw [hc] at this
  exact this.lit_inv
theorem SW.cond {rd : Option Nat} {c : Operand} {x y : Code} {t : Bool} {Q : Exit → Fm → St → Prop} {f : Fm} {st : St} (hc : Operand.av f.ts c = .lit (.bool t)) (h : SW P rd (if t then x else y) Q f st) : SW P rd (.cond c x y) Q f st :=
  fun φ w a n h1 h2 h3 => wpIn_cond (eval_bool h3 hc) (h φ w a n h1 h2 h3)
theorem SW.condS {rd : Option Nat} {c : Operand} {x y : Code} {t : Bool} {Q : Exit → Fm → St → Prop} {f : Fm} {st : St} (hc : boolOf (Operand.av f.ts c) = some t) (h1 : t = true → SW P rd x Q f st) (h0 : t = false → SW P rd y Q f st) : SW P rd (.cond c x y) Q f st :=
  fun φ w a n k1 k2 k3 => by
    have he : a.eval c = .bool t := boolOf_ok hc (opR_of k3.ts c)
    exact wpIn_cond he (by cases t; exact h0 rfl φ w a n k1 k2 k3; exact h1 rfl φ w a n k1 k2 k3)
def blockQ (id : Nat) (Q : Exit → Fm → St → Prop) : Exit → Fm → St → Prop
  | .exit id', f, st => match Nat.beq id' id with
    | true => Q .normal f st
    | false => Q (.exit id') f st
  | e, f, st => Q e f st
theorem SW.block {rd : Option Nat} {id : Nat} {c : Code} {Q : Exit → Fm → St → Prop} {f : Fm} {st : St} (h : SW P rd c (blockQ id Q) f st) : SW P rd (.block id c) Q f st := by
  intro φ w a n h1 h2 h3
  refine wpIn_block (wpIn_mono (h φ w a n h1 h2 h3) fun e a' w' hq => ?_)
  obtain ⟨f', st', φ', k, r⟩ := hq
  cases e with
  | exit id' =>
    simp only [blockQ, Exit.inBlock] at k ⊢
    split
    · rename_i hid
      have hb : Nat.beq id' id = true := by rw [hid]; exact Nat.beq_refl id
      rw [hb] at k
      exact ⟨f', st', φ', k, r⟩
    · rename_i hid
      have hb : Nat.beq id' id = false := by rw [← Bool.not_eq_true]; exact fun h => hid (Nat.eq_of_beq_eq_true h)
      rw [hb] at k
      exact ⟨f', st', φ', k, r⟩
  | normal => exact ⟨f', st', φ', k, r⟩
  | goto id => exact ⟨f', st', φ', k, r⟩
  | ret => exact ⟨f', st', φ', k, r⟩
  | panic c => exact ⟨f', st', φ', k, r⟩
  | outgrown => exact ⟨f', st', φ', k, r⟩
theorem SW.loop {rd : Option Nat} {c : Code} {Q : Exit → Fm → St → Prop} {f : Fm} {st : St} (I : Nat → Fm → St → Prop) (k : Nat) (h0 : I k f st)
    (hround : ∀ k f st, I k f st → SW P rd c (thenQ (fun f' st' => ∃ k', k' < k ∧ I k' f' st') Q) f st) : SW P rd (.loop c) Q f st := by
  intro φ w a n h1 h2 h3
  let J : Nat → Act → World → Prop := fun k a' w' => ∃ f' st' φ', I k f' st' ∧ Ext φ φ' ∧ Rel φ' st' w' ∧ ActR φ' f' a' ∧ Fr φ st w φ' st' w'
  intro b kk cs hro hb hroom
  have key : ∀ k a' w', J k a' w' → ∃ e a₂ w₂, Lift φ st w Q e a₂ w₂ ∧ ArrivesIn (Machine.fenced P (FW (rdB φ rd))) P (lone (b.atR a' (.code c :: .inLoop c :: kk)) cs w') b kk cs e a₂ w₂ := by
    intro k
    induction k using Nat.strongRecOn with
    | _ k ih =>
      intro a' w' hj
      obtain ⟨f', st', φ', hi, he, hr, ha, hf⟩ := hj
      have hr1 := hround k f' st' hi φ' w' a' n (fun id hi => Nat.lt_of_lt_of_le (h1 id hi) he.n) hr ha
      rw [rdB_ext he h1] at hr1
      obtain ⟨e, a₁, w₁, hq, harr⟩ := hr1 b (.inLoop c :: kk) cs hro hb hroom
      obtain ⟨f2, st2, φ2, hk, he2, hr2, ha2, hf2⟩ := hq
      cases e with
      | normal =>
        obtain ⟨k', hlt, hi'⟩ := hk
        obtain ⟨e₂, a₂, w₂, hq₂, harr₂⟩ := ih k' hlt a₁ w₁ ⟨f2, st2, φ2, hi', he.trans he2, hr2, ha2, hf.trans hf2⟩
        exact ⟨e₂, a₂, w₂, hq₂, .of_steps (StepsIn.trans harr (.one (fenced_calm hb hroom rfl) stepR_inLoop)) harr₂⟩
      | exit id => exact ⟨_, a₁, w₁, ⟨f2, st2, φ2, hk, he.trans he2, hr2, ha2, hf.trans hf2⟩, .pass (x := .inLoop c) rfl (fun _ _ => .inl (by simp)) harr⟩
      | goto l => exact ⟨_, a₁, w₁, ⟨f2, st2, φ2, hk, he.trans he2, hr2, ha2, hf.trans hf2⟩, .pass (x := .inLoop c) rfl (fun _ _ => .inl (by simp)) harr⟩
      | ret => exact ⟨_, a₁, w₁, ⟨f2, st2, φ2, hk, he.trans he2, hr2, ha2, hf.trans hf2⟩, .pass (x := .inLoop c) rfl (fun _ _ => .inl (by simp)) harr⟩
      | panic ch => exact ⟨_, a₁, w₁, ⟨f2, st2, φ2, hk, he.trans he2, hr2, ha2, hf.trans hf2⟩, .pass (x := .inLoop c) rfl (fun _ _ => .inl (by simp)) harr⟩
      | outgrown => exact ⟨_, a₁, w₁, ⟨f2, st2, φ2, hk, he.trans he2, hr2, ha2, hf.trans hf2⟩, .pass (x := .inLoop c) rfl (fun _ _ => .inl (by simp)) harr⟩
  obtain ⟨e, a', w', hq, harr⟩ := key k a w ⟨f, st, φ, h0, Ext.refl _, h2, h3, Fr.refl _ _ _⟩
  exact ⟨e, a', w', hq, .of_steps (.one (fenced_calm hb hroom rfl) stepR_loop) harr⟩
def yA (ops : Array Oper) (ts : Ts) (j : Nat) : Option (Option Bool) :=
  match (ops[j]?).bind (·.dst) with
  | some d => match ts.get d with
    | .lit (.bool b) => some (some b)
    | .lit (.tuple _) => some none
    | _ => none
  | none => none
def wantA (ops : Array Oper) (ts : Ts) (o : Oper) : Option Bool :=
  match o.guard with
  | none => some true
  | some (j, b) => match yA ops ts j with
    | some (some c) => some (c == b)
    | some none => some false
    | none => none
theorem yielded_eq {φ : Fi} {f : Fm} {a : Act} (h : ActR φ f a) (ops : Array Oper) {j : Nat} {b : Option Bool} (hy : yA ops f.ts j = some b) : yielded ops a.tmps j = b := by
  unfold yA at hy
  unfold yielded
  cases hd : (ops[j]?).bind (·.dst) with
  | none => simp [hd] at hy
  | some d =>
    simp only [hd] at hy
    have hg := h.ts.get d
    split at hy
    · rename_i c hq
      cases hy
      rw [hq] at hg
      have := hg.lit_inv
      simp only [Option.bind_some]
      cases ht : a.tmps[d]? with
      | none => simp [Array.getD_eq_getD_getElem?, ht] at this
      | some u => simp [Array.getD_eq_getD_getElem?, ht] at this; rw [this]
    · rename_i c hq
      cases hy
      rw [hq] at hg
      have := hg.lit_inv
      simp only [Option.bind_some]
      cases ht : a.tmps[d]? with
      | none => rfl
      | some u => simp [Array.getD_eq_getD_getElem?, ht] at this; rw [this]
    · cases hy
theorem wanted_eq {φ : Fi} {f : Fm} {a : Act} (h : ActR φ f a) (ops : Array Oper) {o : Oper} {b : Bool} (hw : wantA ops f.ts o = some b) : Region.wanted o (yielded ops a.tmps) = b := by
  unfold wantA at hw
  unfold Region.wanted
  split at hw
  · rename_i hg; cases hw; rw [hg]
  · rename_i j c hg
    rw [hg]
    split at hw
    · rename_i d hy
      cases hw
      have := yielded_eq h ops hy
      simp [this]
    · rename_i hy
      cases hw
      have := yielded_eq h ops hy
      simp [this]
    · cases hw
theorem semAt_eq {o : Oper} (h : ∀ c, o.op ≠ .defer c) (ro : Option Nat) (ρ : Operand → Value) : o.semAt ro ρ = execOp ρ o := by
  unfold Oper.semAt
  split
  · rename_i l c hc; exact absurd hc (h c)
  · rfl
theorem OpsW.nil {rd : Option Nat} {ops : Array Oper} {K : Fm → St → Prop} {f : Fm} {st : St} (h : K f st) : OpsW P rd ops [] K f st :=
  fun _ _ _ _ _ _ h2 h3 hQ => hQ _ _ (Lift.here h h2 h3)
theorem OpsW.skip {rd : Option Nat} {ops : Array Oper} {i : Nat} {l : List Nat} {K : Fm → St → Prop} {f : Fm} {st : St} {o : Oper} (ho : ops[i]? = some o) (hw : wantA ops f.ts o = some false)
    (h : OpsW P rd ops l K (f.put o.dst undA) st) : OpsW P rd ops (i :: l) K f st := by
  intro φ w a n Q h1 h2 h3 hQ
  simp only [wpOpsIn, ho]
  rw [wanted_eq h3 ops hw]
  simp only [Bool.false_eq_true, if_false]
  exact ⟨fun _ _ => trivial, h φ w _ n Q h1 h2 (h3.put o.dst (.lit _)) hQ⟩
theorem OpsW.skipE {rd : Option Nat} {ops : Array Oper} {i : Nat} {l : List Nat} {K : Fm → St → Prop} {f : Fm} {st : St} {o : Oper} {r : AV} (ho : ops[i]? = some o) (hw : wantA ops f.ts o = some false) (he : Eqv undA r)
    (h : OpsW P rd ops l K (f.put o.dst r) st) : OpsW P rd ops (i :: l) K f st := by
  intro φ w a n Q h1 h2 h3 hQ
  simp only [wpOpsIn, ho]
  rw [wanted_eq h3 ops hw]
  simp only [Bool.false_eq_true, if_false]
  exact ⟨fun _ _ => trivial, h φ w _ n Q h1 h2 (h3.put o.dst (he _ _ (.lit _))) hQ⟩
theorem OpsW.value {rd : Option Nat} {ops : Array Oper} {i : Nat} {l : List Nat} {K : Fm → St → Prop} {f : Fm} {st st' : St} {o : Oper} {r : AV} (ho : ops[i]? = some o) (hw : wantA ops f.ts o = some true) (hd : ∀ c, o.op ≠ .defer c)
    (hrun : ∀ (φ : Fi) (w : World) (a : Act), Rel φ st w → ActR φ f a → ∃ φ' w' u, ((execOp a.eval o).run P w = .ok (.value u) w' ∨ ((execOp a.eval o).run P w = .ok .skip w' ∧ u = undef)) ∧ VR φ' r u ∧ Rel φ' st' w' ∧ Ext φ φ' ∧ Fr φ st w φ' st' w')
    (h : OpsW P rd ops l K (f.put o.dst r) st') : OpsW P rd ops (i :: l) K f st := by
  intro φ w a n Q h1 h2 h3 hQ
  simp only [wpOpsIn, ho]
  rw [wanted_eq h3 ops hw]
  simp only [if_true]
  refine ⟨fun _ _ => trivial, ?_⟩
  rw [semAt_eq hd]
  obtain ⟨φ', w', u, hr, hv, hrel, he, hf⟩ := hrun φ w a h2 h3
  have h4 := h φ' w' (a.put o.dst u) n Q (fun id hi => Nat.lt_of_lt_of_le (h1 id hi) he.n) hrel ((h3.mono he).put o.dst hv) (fun a' w'' hl => hQ a' w'' (hl.trans he hf))
  rw [rdB_ext he h1] at h4
  rcases hr with hr | ⟨hr, rfl⟩
  · rw [hr]; exact h4
  · rw [hr]; exact h4
theorem evG_ne_defer {T : Ti} {h : Hp} {ρ : Operand → AV} {o : Oper} {r : AV} (he : evG T h ρ o = some r) (c : Call) : o.op ≠ .defer c := by
  intro hc; unfold evG at he; simp only [hc] at he; unfold evL at he; simp only [hc] at he; cases he
theorem OpsW.light (hT : TOk P T) {rd : Option Nat} {ops : Array Oper} {i : Nat} {l : List Nat} {K : Fm → St → Prop} {f : Fm} {st : St} {o : Oper} {r : AV} (ho : ops[i]? = some o) (hw : wantA ops f.ts o = some true)
    (hr : evG T st.h (Operand.av f.ts) o = some r) (h : OpsW P rd ops l K (f.put o.dst r) st) : OpsW P rd ops (i :: l) K f st :=
  OpsW.value ho hw (evG_ne_defer hr) (fun φ w a h2 h3 => by
    obtain ⟨u, h4, h5⟩ := evG_ok (P := P) hT h2 (opR_of h3.ts) hr
    exact ⟨φ, w, u, .inl (h5 w (Same.refl _ _ _)), h4, h2, Ext.refl _, Fr.refl _ _ _⟩) h
theorem OpsW.lightE (hT : TOk P T) {rd : Option Nat} {ops : Array Oper} {i : Nat} {l : List Nat} {K : Fm → St → Prop} {f : Fm} {st : St} {o : Oper} {r0 r : AV} (ho : ops[i]? = some o) (hw : wantA ops f.ts o = some true)
    (hr : evG T st.h (Operand.av f.ts) o = some r0) (he : Eqv r0 r) (h : OpsW P rd ops l K (f.put o.dst r) st) : OpsW P rd ops (i :: l) K f st :=
  OpsW.value ho hw (evG_ne_defer hr) (fun φ w a h2 h3 => by
    obtain ⟨u, h4, h5⟩ := evG_ok (P := P) hT h2 (opR_of h3.ts) hr
    exact ⟨φ, w, u, .inl (h5 w (Same.refl _ _ _)), he _ _ h4, h2, Ext.refl _, Fr.refl _ _ _⟩) h
theorem OpsW.fresh (hT : TOk P T) {rd : Option Nat} {ops : Array Oper} {i : Nat} {l : List Nat} {K : Fm → St → Prop} {f : Fm} {st : St} {o : Oper} {r : AV} {cs : List AV} (ho : ops[i]? = some o) (hw : wantA ops f.ts o = some true)
    (hr : evF T st.n (Operand.av f.ts) o = some (r, cs)) (h : OpsW P rd ops l K (f.put o.dst r) (st.push (.cells none false cs))) : OpsW P rd ops (i :: l) K f st :=
  OpsW.value ho hw (fun c hc => by unfold evF at hr; simp only [hc] at hr; cases hr) (fun φ w a h2 h3 => by
    rw [← h2.n] at hr
    obtain ⟨c, t, h4, h5⟩ := evF_ok (P := P) hT (opR_of h3.ts) hr
    obtain ⟨u, h6, h7⟩ := h5 w
    have := h2.push (.cells c t) (.cells none false cs) ⟨w.heap.size, 0, c.size⟩ rfl (ObjR.new (rest := []) h4 c (by simp) t) (fun f hf => by cases hf)
    exact ⟨_, _, u, .inl h6, h7, this.1, φ.push_ext _, this.2⟩) h
def storeO (T : Ti) (st : St) (ρ : Operand → AV) (o : Oper) : Option St :=
  match o.op with
  | .store t p x => storeA T st t (ρ p) (ρ x)
  | _ => none
theorem OpsW.store (hT : TOk P T) {rd : Option Nat} {ops : Array Oper} {i : Nat} {l : List Nat} {K : Fm → St → Prop} {f : Fm} {st st' : St} {o : Oper} (ho : ops[i]? = some o) (hw : wantA ops f.ts o = some true)
    (hr : storeO T st (Operand.av f.ts) o = some st') (h : OpsW P rd ops l K (f.put o.dst undA) st') : OpsW P rd ops (i :: l) K f st := by
  unfold storeO at hr
  split at hr
  · rename_i t p x hx
    refine OpsW.value ho hw (fun c hc => by rw [hx] at hc; cases hc) (fun φ w a h2 h3 => ?_) h
    obtain ⟨w', h4, h5, h6, h7⟩ := store_ok (P := P) hT h2 (opR_of h3.ts p) (opR_of h3.ts x) hr
    exact ⟨φ, w', undef, .inr ⟨by simp [execOp, hx, h4, Result.andThen], rfl⟩, .lit _, h5, Ext.refl _, h6⟩
  · cases hr
def appendO (T : Ti) (st : St) (ρ : Operand → AV) (o : Oper) : Option (AV × St) :=
  match o.op with
  | .call c => match c.callee, c.args.toList, c.argTypes.toList with
    | .builtin .append, [s, x], [t, xt] => appendA T st t xt (ρ s) (ρ x)
    | _, _, _ => none
  | _ => none
theorem OpsW.append (hT : TOk P T) {rd : Option Nat} {ops : Array Oper} {i : Nat} {l : List Nat} {K : Fm → St → Prop} {f : Fm} {st st' : St} {o : Oper} {r : AV} (ho : ops[i]? = some o) (hw : wantA ops f.ts o = some true)
    (hr : appendO T st (Operand.av f.ts) o = some (r, st')) (h : OpsW P rd ops l K (f.put o.dst r) st') : OpsW P rd ops (i :: l) K f st := by
  unfold appendO at hr
  split at hr
  · rename_i c hx
    split at hr
    · rename_i s x t xt hc ha ht
      have ha' : c.args = #[s, x] := by cases hq : c.args; simp_all
      have ht' : c.argTypes = #[t, xt] := by cases hq : c.argTypes; simp_all
      refine OpsW.value ho hw (fun c hc => by rw [hx] at hc; cases hc) (fun φ w a h2 h3 => ?_) h
      obtain ⟨φ', w', v, h4, h5, h6, h7, h8⟩ := append_ok (P := P) (ty := o.type) hT h2 (opR_of h3.ts s) (opR_of h3.ts x) hr
      refine ⟨φ', w', v, .inl ?_, h5, h6, h7, h8⟩
      simp [execOp, hx, resolve, hc, ha', ht', invoke, builtin, h4, Result.andThen]
    · cases hr
  · cases hr
theorem SW.region {rd : Option Nat} {id : Nat} {ops : Array Oper} {Q : Exit → Fm → St → Prop} {f : Fm} {st : St} (h : OpsW P rd ops (List.range ops.size) (fun f st => Q .normal f st) f st) : SW P rd (.region id ops false) Q f st :=
  fun φ w a n h1 h2 h3 => wpIn_region (h φ w a n (Lift φ st w Q) h1 h2 h3 fun _ _ hl => hl)
end Go.Fz
namespace Go.Fz
def CPost (φ : Fi) (st : St) (w : World) (k : AV → St → Prop) : Ending → World → Prop :=
  fun e w' => ∃ v cv st' φ', e = .returned cv ∧ k v st' ∧ VR φ' v cv ∧ Ext φ φ' ∧ Rel φ' st' w' ∧ Fr φ st w φ' st' w'
variable (P : Program) (T : Ti)
def CallW (g : FuncId) (args : List AV) (st : St) (k : AV → St → Prop) : Prop :=
  ∀ (φ : Fi) (w : World) (cargs : List Value) (n : Nat), Rel φ st w → VRL φ args cargs → CallsIn Fence.wide n P g cargs.toArray w (CPost φ st w k)
def YieldW (id : Nat) (args : List AV) (st : St) (k : AV → St → Prop) : Prop :=
  ∀ (φ : Fi) (w : World) (cargs : List Value) (n : Nat), Rel φ st w → id < φ.n → VRL φ args cargs →
    ∃ fn tmps assign body, (Instr.yield (φ.f id).b cargs.toArray).run P w = .ok (.round (φ.f id).b fn tmps assign body) w ∧ RoundIn Fence.wide n P (φ.f id).b fn tmps assign body w (CPost φ st w k)
def Enters (g : FuncId) : Prop := ∀ args w, (callFunc g args).run P w = .ok (.enter g args) w
def ApplyW (callee : AV) (args : List AV) (st : St) (k : AV → St → Prop) : Prop :=
  match callee with
  | .fn (.func g) first caps => Enters P g ∧ CallW P g (first ++ args ++ caps) st k
  | .yld id => YieldW P id args st k
  | _ => False
variable {P T}
theorem CallW.mono {g : FuncId} {args : List AV} {st : St} {k k' : AV → St → Prop} (h : CallW P g args st k) (hk : ∀ v st, k v st → k' v st) : CallW P g args st k' :=
  fun φ w cargs n h1 h2 => (h φ w cargs n h1 h2).mono fun _ _ ⟨v, cv, st', φ', h3, h4, r⟩ => ⟨v, cv, st', φ', h3, hk _ _ h4, r⟩
theorem YieldW.mono {id : Nat} {args : List AV} {st : St} {k k' : AV → St → Prop} (h : YieldW P id args st k) (hk : ∀ v st, k v st → k' v st) : YieldW P id args st k' :=
  fun φ w cargs n h1 h2 h3 => by
    obtain ⟨fn, tmps, assign, body, h4, h5⟩ := h φ w cargs n h1 h2 h3
    exact ⟨fn, tmps, assign, body, h4, h5.mono fun _ _ ⟨v, cv, st', φ', h3, h4, r⟩ => ⟨v, cv, st', φ', h3, hk _ _ h4, r⟩⟩
theorem ApplyW.mono {c : AV} {args : List AV} {st : St} {k k' : AV → St → Prop} (h : ApplyW P c args st k) (hk : ∀ v st, k v st → k' v st) : ApplyW P c args st k' := by
  unfold ApplyW at *
  split at h
  · exact ⟨h.1, h.2.mono hk⟩
  · exact h.mono hk
  · exact h
def callO (ρ : Operand → AV) (o : Oper) : Option (AV × List AV) :=
  match o.op with
  | .call c => match c.callee with
    | .value f => some (ρ f, c.args.toList.map ρ)
    | _ => none
  | _ => none
theorem opRs {φ : Fi} {ρa : Operand → AV} {ρ : Operand → Value} (hρ : OpR φ ρa ρ) : ∀ l : List Operand, VRL φ (l.map ρa) (l.map ρ)
  | [] => .nil
  | x :: l => .cons (hρ x) (opRs hρ l)
theorem OpsW.call {rd : Option Nat} {ops : Array Oper} {i : Nat} {l : List Nat} {K : Fm → St → Prop} {f : Fm} {st : St} {o : Oper} {c : AV} {args : List AV} (ho : ops[i]? = some o) (hw : wantA ops f.ts o = some true)
    (hc : callO (Operand.av f.ts) o = some (c, args)) (h : ApplyW P c args st (fun v st' => OpsW P rd ops l K (f.put o.dst v) st')) : OpsW P rd ops (i :: l) K f st := by
  unfold callO at hc
  split at hc
  · rename_i cl hx
    split at hc
    · rename_i fo hcal
      cases hc
      intro φ w a n Q h1 h2 h3 hQ
      simp only [wpOpsIn, ho]
      rw [wanted_eq h3 ops hw]
      simp only [if_true]
      refine ⟨fun _ _ => trivial, ?_⟩
      rw [semAt_eq (fun c hc => by rw [hx] at hc; cases hc)]
      have hρ := opR_of h3.ts
      have hargs := opRs hρ cl.args.toList
      have hfo := hρ fo
      have hnext : ∀ e w', CPost φ st w (fun v st' => OpsW P rd ops l K (f.put o.dst v) st') e w' → ∃ cv, e = .returned cv ∧ wpOpsIn (FW (rdB φ rd)) n P ops Q l (a.put o.dst cv) w' := fun e w' hp => by
        obtain ⟨v, cv, st', φ', he, hk, hv, hex, hrel, hfr⟩ := hp
        refine ⟨cv, he, ?_⟩
        have h4 := hk φ' w' (a.put o.dst cv) n Q (fun id hi => Nat.lt_of_lt_of_le (h1 id hi) hex.n) hrel ((h3.mono hex).put o.dst hv) (fun a' w'' hl => hQ a' w'' (hl.trans hex hfr))
        rwa [rdB_ext hex h1] at h4
      unfold ApplyW at h
      split at h
      · rename_i g first caps hq
        rw [hq] at hfo
        obtain ⟨us, vs, hfv, hu, hv⟩ := hfo.fn_inv
        obtain ⟨hent, hcw⟩ := h
        have hcall := hcw φ w (us ++ cl.args.toList.map a.eval ++ vs) (n - 1) h2 ((hu.append hargs).append hv)
        have hrun : (execOp a.eval o).run P w = .ok (.enter g (us ++ cl.args.toList.map a.eval ++ vs).toArray) w := by
          simp only [execOp, hx, resolve, hcal, Sem.run_bind, hfv, Deferred.ofValue, Sem.run_pure, Result.andThen, invoke]
          rw [hent]
          congr 2
          apply Array.ext'
          simp
        rw [hrun]
        refine ⟨fun h => (by cases h), ?_⟩
        have hcall' : CallsIn (FW (rdB φ rd)) (n - 1) P g (us ++ cl.args.toList.map a.eval ++ vs).toArray w (CPost φ st w (fun v st' => OpsW P rd ops l K (f.put o.dst v) st')) := by
          cases rdB φ rd <;> exact hcall
        refine hcall'.mono fun e w' hp => ?_
        obtain ⟨cv, rfl, h5⟩ := hnext e w' hp
        exact h5
      · rename_i id hq
        rw [hq] at hfo
        obtain ⟨hfv, hid⟩ := hfo.yld_inv
        obtain ⟨fn, tmps, assign, body, hy, hround⟩ := h φ w (cl.args.toList.map a.eval) (n - 1) h2 hid hargs
        have hrun : (execOp a.eval o).run P w = .ok (.round (φ.f id).b fn tmps assign body) w := by
          simp only [execOp, hx, resolve, hcal, Sem.run_bind, hfv, Deferred.ofValue, Sem.run_pure, Result.andThen, invoke]
          rw [← hy]
          congr 2
          apply Array.ext'
          simp
        rw [hrun]
        refine ⟨fun h => (by cases h), ?_⟩
        have hround' : RoundIn (FW (rdB φ rd)) (n - 1) P (φ.f id).b fn tmps assign body w (CPost φ st w (fun v st' => OpsW P rd ops l K (f.put o.dst v) st')) := by
          cases rdB φ rd <;> exact hround
        refine hround'.mono fun e w' hp => ?_
        obtain ⟨cv, rfl, h5⟩ := hnext e w' hp
        exact h5
      · exact h.elim
    · cases hc
  · cases hc
def killA : List Nat → St → Option St
  | [], st => some st
  | id :: r, st => match st.h.get id with
    | some .dfr => killA r ⟨st.h.set id (.cells none true []), st.n⟩
    | _ => none
def resOne (T : Ti) (f : Fm) (st : St) : ResultVar → Option AV
  | .tmp t => some (f.ts.get t)
  | .cell a t => loadA T st.h t (f.ts.get a)
def resAll (T : Ti) (f : Fm) (st : St) : List ResultVar → Option (List AV)
  | [] => some []
  | r :: rs => match resOne T f st r, resAll T f st rs with
    | some v, some vs => some (v :: vs)
    | _, _ => none
def resA (T : Ti) (rs : Array ResultVar) (f : Fm) (st : St) : Option AV :=
  match resAll T f st rs.toList with
  | some [v] => some v
  | some vs => some (.tup vs)
  | none => none
def retQ (T : Ti) (fn : Func) (k : AV → St → Prop) : Exit → Fm → St → Prop
  | .normal, f, st | .ret, f, st => ∃ st' v, killA f.dm st = some st' ∧ resA T fn.results f st' = some v ∧ k v st'
  | _, _, _ => False
theorem getD_ok {φ : Fi} {ts : Ts} {tmps : Array Value} (h : TsR φ ts tmps) (t : Nat) : VR φ (ts.get t) (tmps.getD t undef) :=
  h.get t
def resF (tmps : Array Value) : ResultVar → Sem Value
  | .tmp t => pure (tmps.getD t undef)
  | .cell a t => do loadVar t (← asAddr (tmps.getD a undef))
theorem results_eq (fn : Func) (tmps : Array Value) : results fn tmps = (do let vs ← fn.results.mapM (resF tmps); pure (if h : vs.size = 1 then vs[0] else .tuple vs)) := rfl
theorem res_ok (hT : TOk P T) {φ : Fi} {st : St} {w : World} {f : Fm} {tmps : Array Value} {fn : Func} {v : AV} (hr : Rel φ st w) (ht : TsR φ f.ts tmps) (h : resA T fn.results f st = some v) :
    ∃ u, VR φ v u ∧ (results fn tmps).run P w = .ok u w := by
  have hone : ∀ r v, resOne T f st r = some v → ∃ u, VR φ v u ∧ ((resF tmps r).run P w = .ok u w) := fun r v hv => by
    cases r with
    | tmp t => simp only [resOne, Option.some.injEq] at hv; subst hv; exact ⟨_, getD_ok ht t, rfl⟩
    | cell a t =>
      simp only [resOne] at hv
      obtain ⟨u, h1, h2⟩ := load_ok (P := P) hT hr (getD_ok ht a) hv
      refine ⟨u, h1, ?_⟩
      have h3 := h2 w (Same.refl _ _ _)
      have hg := getD_ok ht a
      have hpt : ∃ x, tmps.getD a undef = .pointer (some x) := by
        unfold loadA at hv
        split at hv
        · rename_i sz k e hq
          rw [hq] at hg
          obtain ⟨b, o, c, us, hp, _⟩ := hg.ip_inv
          exact ⟨_, hp⟩
        · split at hv
          · rename_i id off hq
            exact ⟨_, (ptrOf_ok hq hg).ptr_inv.1⟩
          · cases hv
      obtain ⟨x, hp⟩ := hpt
      rw [hp] at h3
      show Sem.run P (do let x ← asAddr (tmps.getD a undef); loadVar t x) w = _
      rw [hp]
      simpa [Instr.loadAt, Instr.sureAddr, asAddr] using h3
  have hall : ∀ rs vs, resAll T f st rs = some vs → ∃ us, VRL φ vs us ∧ (rs.mapM (resF tmps)).run P w = .ok us w := by
    intro rs
    induction rs with
    | nil => intro vs hv; simp only [resAll, Option.some.injEq] at hv; subst hv; exact ⟨[], .nil, rfl⟩
    | cons r rs ih =>
      intro vs hv
      simp only [resAll] at hv
      split at hv
      · rename_i v1 vs1 h1 h2
        cases hv
        obtain ⟨u, hu, hur⟩ := hone r v1 h1
        obtain ⟨us, hus, husr⟩ := ih vs1 h2
        refine ⟨u :: us, .cons hu hus, ?_⟩
        simp only [List.mapM_cons, Sem.run_bind, hur, Result.andThen, husr, Sem.run_pure]
      · cases hv
  unfold resA at h
  have key : ∀ vs us, VRL φ vs us → (fn.results.toList.mapM (resF tmps)).run P w = .ok us w →
      (results fn tmps).run P w = .ok (if h : us.toArray.size = 1 then us.toArray[0] else .tuple us.toArray) w := fun vs us _ hrun => by
    rw [results_eq]
    have hm : ∀ x : Sem (List Value), (List.toArray <$> x).run P w = (x.run P w).andThen fun a w' => .ok a.toArray w' := fun x => by
      show (x >>= fun a => pure a.toArray).run P w = _
      rw [Sem.run_bind]; rfl
    rw [Sem.run_bind, Array.mapM_eq_mapM_toList, hm, hrun]
    rfl
  split at h
  · rename_i v' hq
    cases h
    obtain ⟨us, hus, hrun⟩ := hall _ _ hq
    cases hus with
    | cons h1 h2 => cases h2 with
      | nil => exact ⟨_, h1, by rw [key _ _ (.cons h1 .nil) hrun]; simp⟩
  · rename_i vs hne hq
    cases h
    obtain ⟨us, hus, hrun⟩ := hall _ _ hq
    refine ⟨.tuple us.toArray, .tup hus, ?_⟩
    rw [key _ _ hus hrun]
    have : us.toArray.size ≠ 1 := fun h1 => by
      have hl := hus.length
      have : vs.length = 1 := by rw [hl]; simpa using h1
      match vs, this with
      | [x], _ => exact hne x rfl
    rw [dif_neg this]
  · cases h
theorem run_takeDef {w : World} {b : Nat} (h : w.heap[b]? = some (.deferred (some []))) : (Instr.takeDeferred b).run P w = .ok [] (w.putObj b (.deferred none)) := run_takeDeferred h
theorem Rel.kill {φ : Fi} {st : St} {w : World} (hr : Rel φ st w) {id : Nat} (ho : st.h.get id = some .dfr) :
    Rel φ ⟨st.h.set id (.cells none true []), st.n⟩ (w.putObj (φ.f id).b (.deferred none)) ∧ Fr φ st w φ ⟨st.h.set id (.cells none true []), st.n⟩ (w.putObj (φ.f id).b (.deferred none)) :=
  hr.turn ho rfl rfl rfl rfl rfl rfl World.putObj_size (fun _ hk => World.putObj_heap_other hk) ⟨fun i a ha => by simp at ha, fun h => by cases h⟩
theorem leaves_ok (hT : TOk P T) {n : Nat} {fn : Func} {k : AV → St → Prop} {φ0 : Fi} {st0 : St} {w0 : World} {f : Fm} {tmps : Array Value} {φ : Fi} : ∀ (dm : List Nat) (st : St) (w : World), (∀ id ∈ dm, id < φ.n) → Ext φ0 φ → Rel φ st w → TsR φ f.ts tmps →
    Fr φ0 st0 w0 φ st w → (∃ st' v, killA dm st = some st' ∧ resA T fn.results f st' = some v ∧ k v st') →
    LeavesInM Fence.wide n P fn tmps (CPost φ0 st0 w0 k) (dm.map fun id => { target := .collected (φ.f id).b, args := #[] }) .returning w
  | [], st, w, _, he, hr, ht, hf, ⟨st', v, hk, hv, hkv⟩ => by
    simp only [killA, Option.some.injEq] at hk
    subst hk
    obtain ⟨u, hu, hrun⟩ := res_ok (P := P) hT hr ht hv
    exact ⟨u, hrun, v, u, st, φ, rfl, hkv, hu, he, hr, hf⟩
  | id :: r, st, w, hlt, he, hr, ht, hf, ⟨st', v, hk, hv, hkv⟩ => by
    simp only [killA] at hk
    split at hk
    · rename_i ho
      have hd := hr.obj id _ ho
      obtain ⟨h1, h2⟩ := hr.kill ho
      refine ⟨by simp, .inl ⟨(φ.f id).b, _, rfl, run_takeDef hd, ?_⟩⟩
      exact leaves_ok hT r _ _ (fun i hi => hlt i (List.mem_cons_of_mem _ hi)) he h1 ht (hf.trans h2) ⟨st', v, hk, hv, hkv⟩
    · cases hk
theorem callW_of_body (hT : TOk P T) {g : FuncId} {fn : Func} {c : Code} {args : List AV} {st : St} {k : AV → St → Prop} (hf : P.funcs[g]? = some fn) (hb : fn.body = some c)
    (h : SW P none c (retQ T fn k) ⟨Ts.of args fn.ntmps, []⟩ st) : CallW P g args st k := by
  intro φ w cargs n h1 h2
  refine callsIn_of_wp_marks hf hb trivial ?_ rfl
  have hl := h2.length
  have ha : ActR φ ⟨Ts.of args fn.ntmps, []⟩ { tmps := cargs.toArray ++ Array.replicate (fn.ntmps - cargs.toArray.size) undef, defers := [] } := by
    refine ⟨?_, rfl, fun _ h => by cases h⟩
    have := TsR.of h2 fn.ntmps
    simpa [undef] using this
  refine wpIn_mono (h φ w _ n (fun id hi => by cases hi) h1 ha) fun e a' w' hq => ?_
  obtain ⟨f', st', φ', hk, he, hr, ha', hfr⟩ := hq
  cases e with
  | normal => show LeavesInM _ _ _ _ _ _ _ _ _; rw [ha'.dm]; exact leaves_ok hT f'.dm st' w' ha'.lt he hr ha'.ts hfr hk
  | ret => show LeavesInM _ _ _ _ _ _ _ _ _; rw [ha'.dm]; exact leaves_ok hT f'.dm st' w' ha'.lt he hr ha'.ts hfr hk
  | exit id => exact hk.elim
  | goto l => exact hk.elim
  | panic c => exact hk.elim
  | outgrown => exact hk.elim
end Go.Fz
