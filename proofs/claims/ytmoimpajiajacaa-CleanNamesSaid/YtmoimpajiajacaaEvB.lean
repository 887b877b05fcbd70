/-
  LIGHT OPERATIONS on abstract values: what they yield, and that the model's operation yields what is meant. Own work of the verifier of watercress.
-/
import Derived.Test.YtmoimpajiajacaaEvA
import Derived.Laws.Cells
import Derived.Laws.Small
import Derived.Laws.Entries
import Derived.Laws.StructEq
namespace Go.Ev

/-- What is known of a type. -/
structure TI where
  desc : TypeDesc
  size : Nat
  bytes : Nat
  zero : List Value
  flat : Bool := false

def Ti := TypeId → Option TI

structure TOk1 (P : Program) (t : TypeId) (i : TI) : Prop where
  und : P.underlying t = some i.desc
  info : ∃ ti z, P.info? t = some ti ∧ ti.size = i.size ∧ ti.bytes = i.bytes ∧ ti.zero = some z ∧ z.cells.toList = i.zero
  flat : i.flat = true → P.stoodInHeld t = false ∧ P.eqGuardType P.depth t = false
def TOk (P : Program) (T : Ti) : Prop := ∀ t i, T t = some i → TOk1 P t i

def aggD : TypeDesc → Bool
  | .struct _ | .array _ _ => true
  | _ => false

/-- The kind's own range. -/
def IntKind.lo : IntKind → Int
  | .i8 => -128 | .i16 => -32768 | .i32 => -2147483648 | .i64 => -9223372036854775808 | _ => 0
def IntKind.hi : IntKind → Int
  | .i8 => 127 | .i16 => 32767 | .i32 => 2147483647 | .i64 => 9223372036854775807
  | .u8 => 255 | .u16 => 65535 | .u32 => 4294967295 | .u64 => 18446744073709551615
def wrp (k : IntKind) (n : Int) : Int := if IntKind.lo k ≤ n ∧ n ≤ IntKind.hi k then n else k.wrap n
theorem wrap_in (k : IntKind) (n : Int) (h : IntKind.lo k ≤ n ∧ n ≤ IntKind.hi k) : k.wrap n = n := by
  cases k <;> simp only [IntKind.lo, IntKind.hi] at h <;> simp only [IntKind.wrap, IntKind.bits, IntKind.signed] <;> simp <;> omega
theorem wrp_eq (k : IntKind) (n : Int) : wrp k n = k.wrap n := by
  unfold wrp; split
  · rename_i h; exact (wrap_in k n h).symm
  · rfl
theorem wrp_in {k : IntKind} {n : Int} (h1 : IntKind.lo k ≤ n) (h2 : n ≤ IntKind.hi k) : wrp k n = n := if_pos ⟨h1, h2⟩

def ofV : Value → AV
  | .agg cs => .agg (cs.toList.map .lit)
  | .func f a b => if a.size = 0 ∧ b.size = 0 then .fn f [] [] else .lit (.func f a b)
  | v => .lit v
theorem ofV_ok (φ : Fi) (v : Value) : VR φ (ofV v) v := by
  cases v <;> simp only [ofV] <;> first | exact .lit _ | skip
  · split
    · rename_i f a b h
      have ha : a = #[] := Array.eq_empty_of_size_eq_zero h.1
      have hb : b = #[] := Array.eq_empty_of_size_eq_zero h.2
      subst ha; subst hb
      exact .fn f .nil .nil
    · exact .lit _
  · rename_i cs
    exact .agg (us := cs.toList) (VRL.lits _)

def undA : AV := .lit (.tuple #[])

def Operand.av (ts : List AV) : Operand → AV
  | .tmp t => ts.getD t undA
  | .const v => ofV v
  | .global g => .lit (.pointer (some ⟨g, 0, none⟩))
  | .func f => .fn (.func f) [] []

/-- Operand by operand. -/
def OpR (φ : Fi) (ρa : Operand → AV) (ρ : Operand → Value) : Prop := ∀ x, VR φ (ρa x) (ρ x)

theorem opR_of {φ : Fi} {ts : List AV} {a : Act} (h : VRL φ ts a.tmps.toList) : OpR φ (Operand.av ts) a.eval := by
  intro x
  cases x with
  | tmp t =>
    simp only [Operand.av, Act.eval]
    rw [Array.getD_eq_getD_getElem?, List.getD_eq_getElem?_getD]
    have hl := h.length
    cases ht : ts[t]? with
    | none =>
      have hlt : ts.length ≤ t := List.getElem?_eq_none_iff.1 ht
      have : a.tmps[t]? = none := Array.getElem?_eq_none_iff.2 (by rw [hl] at hlt; exact hlt)
      rw [this]; exact .lit _
    | some u =>
      obtain ⟨v, hv, hr⟩ := h.get t u ht
      rw [Array.getElem?_toList] at hv
      rw [hv]; exact hr
  | const v => exact ofV_ok φ v
  | global g => exact .lit _
  | func f => exact .fn _ .nil .nil

theorem VR.lit_inv {φ : Fi} {v u : Value} (h : VR φ (.lit v) u) : u = v := by cases h; rfl
theorem VR.ptr_inv {φ : Fi} {id off : Nat} {u : Value} (h : VR φ (.ptr id off) u) : u = .pointer (some ⟨(φ.f id).b, (φ.f id).o + off, none⟩) ∧ id < φ.n := by cases h; exact ⟨rfl, by assumption⟩
theorem VR.sl_inv {φ : Fi} {id off len sz : Nat} {ex : Bool} {u : Value} (h : VR φ (.sl id off len sz ex) u) :
    ∃ cap, u = .slice (some ⟨(φ.f id).b, (φ.f id).o + off, none⟩) len cap ∧ id < φ.n ∧ len ≤ cap ∧ (ex = true → cap = len) ∧ (φ.f id).o + off + cap * sz ≤ (φ.f id).n := by
  cases h; exact ⟨_, rfl, by assumption, by assumption, by assumption, by assumption⟩
theorem VR.agg_inv {φ : Fi} {cs : List AV} {u : Value} (h : VR φ (.agg cs) u) : ∃ us : List Value, u = .agg us.toArray ∧ VRL φ cs us := by cases h with | agg h => exact ⟨_, rfl, h⟩
theorem VR.tup_inv {φ : Fi} {cs : List AV} {u : Value} (h : VR φ (.tup cs) u) : ∃ us : List Value, u = .tuple us.toArray ∧ VRL φ cs us := by cases h with | tup h => exact ⟨_, rfl, h⟩
theorem VR.fn_inv {φ : Fi} {f : Fn} {as bs : List AV} {u : Value} (h : VR φ (.fn f as bs) u) : ∃ us vs : List Value, u = .func f us.toArray vs.toArray ∧ VRL φ as us ∧ VRL φ bs vs := by
  cases h with | fn f h1 h2 => exact ⟨_, _, rfl, h1, h2⟩
theorem VR.mp_inv {φ : Fi} {id : Nat} {u : Value} (h : VR φ (.mp id) u) : u = .map (some (φ.f id).b) ∧ id < φ.n := by cases h; exact ⟨rfl, by assumption⟩
theorem VR.yld_inv {φ : Fi} {id : Nat} {u : Value} (h : VR φ (.yld id) u) : u = .func (.yield (φ.f id).b) #[] #[] ∧ id < φ.n := by cases h; exact ⟨rfl, by assumption⟩

def partA (T : Ti) (t : TypeId) (cs : List AV) (off : Nat) : Option AV :=
  match T t with
  | some i => if aggD i.desc then (if off + i.size ≤ cs.length then some (.agg ((cs.drop off).take i.size)) else none) else cs[off]?
  | none => none

/-- The cells that a pointer's object holds. -/
def cellsAt (h : Hp) (id : Nat) : Option (List AV) :=
  match h.get id with
  | some (.cells _ _ cs) => some cs
  | _ => none

def loadA (T : Ti) (h : Hp) (t : TypeId) : AV → Option AV
  | .ptr id off =>
    match cellsAt h id with
    | some cs => partA T t cs off
    | none => none
  | _ => none

def intCmpB (op : BinOp) (x y : Int) : Option Bool :=
  match op with
  | .eql => some (x == y)
  | .neq => some (x != y)
  | .lss => some (decide (x < y))
  | .leq => some (decide (x ≤ y))
  | .gtr => some (decide (x > y))
  | .geq => some (decide (x ≥ y))
  | _ => none

def bitsA (op : BinOp) (k : IntKind) (x y : Int) : Option Int :=
  match op with
  | .and => some (k.wrap (BitVec.ofInt k.bits x &&& BitVec.ofInt k.bits y).toNat)
  | .or => some (k.wrap (BitVec.ofInt k.bits x ||| BitVec.ofInt k.bits y).toNat)
  | .xor => some (k.wrap (BitVec.ofInt k.bits x ^^^ BitVec.ofInt k.bits y).toNat)
  | .andNot => some (k.wrap (BitVec.ofInt k.bits x &&& ~~~ BitVec.ofInt k.bits y).toNat)
  | _ => none

def binA (op : BinOp) (a b : AV) : Option AV :=
  match a, b with
  | .lit (.int k x), .lit (.int k' y) =>
    match op with
    | .shl => if 0 ≤ y then some (.lit (.int k (wrp k (x * 2 ^ (min y.toNat k.bits))))) else none
    | .shr => if 0 ≤ y then some (.lit (.int k (x.fdiv (2 ^ (min y.toNat k.bits))))) else none
    | .add => if k = k' then some (.lit (.int k (wrp k (x + y)))) else none
    | .sub => if k = k' then some (.lit (.int k (wrp k (x - y)))) else none
    | .mul => if k = k' then some (.lit (.int k (wrp k (x * y)))) else none
    | .quo => if k = k' ∧ y ≠ 0 then some (.lit (.int k (wrp k (x.tdiv y)))) else none
    | .rem => if k = k' ∧ y ≠ 0 then some (.lit (.int k (x.tmod y))) else none
    | .and => if k = k' then (bitsA .and k x y).map fun n => .lit (.int k n) else none
    | .or => if k = k' then (bitsA .or k x y).map fun n => .lit (.int k n) else none
    | .xor => if k = k' then (bitsA .xor k x y).map fun n => .lit (.int k n) else none
    | .andNot => if k = k' then (bitsA .andNot k x y).map fun n => .lit (.int k n) else none
    | op => if k = k' then (intCmpB op x y).map fun b => .lit (.bool b) else none
  | _, _ => none

theorem bin_ok {P : Program} {φ : Fi} {op : BinOp} {a b : AV} {u v : Value} {r : AV} (t : TypeId) (x y : Operand) (ha : VR φ a u) (hb : VR φ b v) (h : binA op a b = some r) :
    ∃ z, VR φ r z ∧ ∀ w, (do eqGuard op t x y u v; binOp op t u v : Sem Value).run P w = .ok z w := by
  unfold binA at h
  split at h
  · rename_i k m k' n
    cases ha; cases hb
    have hg : ∀ w, (eqGuard op t x y (.int k m) (.int k' n)).run P w = .ok () w := fun w => by
      unfold eqGuard
      split <;> simp
    have key : ∀ z : Value, (∀ w, (binOp op t (.int k m) (.int k' n)).run P w = .ok z w) → r = .lit z →
        ∃ z, VR φ r z ∧ ∀ w, (do eqGuard op t x y (.int k m) (.int k' n); binOp op t (.int k m) (.int k' n) : Sem Value).run P w = .ok z w := fun z hz hr => by
      subst hr
      exact ⟨z, .lit _, fun w => by simp [Sem.run_bind, hg, Result.andThen, hz]⟩
    cases op <;> simp only at h
    case shl =>
      split at h
      · rename_i hy; cases h
        exact key _ (by simp [binOp, Op.shift, show ¬ n < 0 from by omega, wrp_eq]) rfl
      · cases h
    case shr =>
      split at h
      · rename_i hy; cases h
        exact key _ (by simp [binOp, Op.shift, show ¬ n < 0 from by omega]) rfl
      · cases h
    case quo =>
      split at h
      · rename_i hk; obtain ⟨rfl, hy⟩ := hk; cases h
        exact key _ (by simp [binOp, Op.intDiv, hy, wrp_eq]) rfl
      · cases h
    case rem =>
      split at h
      · rename_i hk; obtain ⟨rfl, hy⟩ := hk; cases h
        exact key _ (by simp [binOp, Op.intDiv, hy]) rfl
      · cases h
    all_goals
      split at h
      · rename_i hk; subst hk
        simp only [bitsA, intCmpB, Option.map_some, Option.some.injEq] at h
        try (exact key _ (by simp [binOp, Op.intArith, Op.intBits, Op.intCmp, wrp_eq]) h.symm)
      · cases h
  · cases h

/-- Operations that look, and reckon: nothing turns. -/
def evL (T : Ti) (h : Hp) (ρ : Operand → AV) (o : Oper) : Option AV :=
  match o.op with
  | .move x | .assign x => some (ρ x)
  | .pick c a b => match ρ c with
    | .lit (.bool t) => some (if t then ρ a else ρ b)
    | _ => none
  | .load t a => loadA T h t (ρ a)
  | .fieldAddr s x f => match ρ x, T s with
    | .ptr id off, some i => match i.desc with
      | .struct fs => match fs[f]? with
        | some fd => match T fd.type with
          | some j => if j.size = 0 then none else some (.ptr id (off + fd.offset))
          | none => none
        | none => none
      | _ => none
    | _, _ => none
  | .field s x f => match ρ x, T s with
    | .agg cs, some i => match i.desc with
      | .struct fs => match fs[f]? with
        | some fd => partA T fd.type cs fd.offset
        | none => none
      | _ => none
    | _, _ => none
  | .indexAddr t x ix => match ρ ix, T t with
    | .lit (.int _ n), some i => match i.desc, ρ x with
      | .array len e, .ptr id off => match T e with
        | some j => if 0 ≤ n ∧ n < len then some (.ptr id (off + n.toNat * j.size)) else none
        | none => none
      | .slice e, .sl id off len sz _ => match T e with
        | some j => if 0 ≤ n ∧ n < len ∧ j.size = sz then some (.ptr id (off + n.toNat * sz)) else none
        | none => none
      | _, _ => none
    | _, _ => none
  | .index t x ix => match ρ ix, T t, ρ x with
    | .lit (.int _ n), some i, .agg cs => match i.desc with
      | .array len e => match T e with
        | some j => if 0 ≤ n ∧ n < len then partA T e cs (n.toNat * j.size) else none
        | none => none
      | _ => none
    | _, _, _ => none
  | .binOp op _ x y _ => binA op (ρ x) (ρ y)
  | .unOp op _ x => match op, ρ x with
    | .not, .lit (.bool b) => some (.lit (.bool !b))
    | .neg, .lit (.int k n) => some (.lit (.int k (wrp k (0 - n))))
    | _, _ => none
  | .convert s d x => match T s, T d, ρ x with
    | some _, some j, .lit (.int _ n) => match j.desc with
      | .int k => some (.lit (.int k (wrp k n)))
      | _ => none
    | _, _, _ => none
  | .extract x i => match ρ x with
    | .tup vs => vs[i]?
    | _ => none
  | .makeFunc f a b => some (.fn f (a.toList.map ρ) (b.toList.map ρ))
  | .call c => match c.callee with
    | .builtin .len => match c.args.toList, c.argTypes.toList with
      | [x], [t] => match T t, ρ x with
        | some i, .sl _ _ n _ _ => match i.desc with
          | .slice _ => some (.lit (.int .i64 n))
          | _ => none
        | some i, .lit (.slice _ n _) => match i.desc with
          | .slice _ => some (.lit (.int .i64 n))
          | _ => none
        | some i, _ => match i.desc with
          | .array n _ => some (.lit (.int .i64 n))
          | _ => none
        | _, _ => none
      | _, _ => none
    | .builtin .min => match c.args.toList with
      | [x, y] => match ρ x, ρ y with
        | .lit (.int k a), .lit (.int _ b) => some (.lit (.int k (if b < a then b else a)))
        | _, _ => none
      | _ => none
    | .builtin .max => match c.args.toList with
      | [x, y] => match ρ x, ρ y with
        | .lit (.int k a), .lit (.int _ b) => some (.lit (.int k (if b > a then b else a)))
        | _, _ => none
      | _ => none
    | _ => none
  | _ => none

/-- The objects of a heap lie as they lay. -/
def Same (φ : Fi) (h : Hp) (w w' : World) : Prop := ∀ id o, h.get id = some o → w'.heap[(φ.f id).b]? = w.heap[(φ.f id).b]?
theorem Same.refl (φ : Fi) (h : Hp) (w : World) : Same φ h w w := fun _ _ _ => rfl

theorem cell_of_block {w w' : World} {a : Addr} (h : w'.heap[a.block]? = w.heap[a.block]?) : w'.cell? a = w.cell? a := by
  unfold World.cell?; rw [h]

section
variable {P : Program} {T : Ti}

theorem run_und (hT : TOk P T) {t : TypeId} {i : TI} (h : T t = some i) (w : World) : (underlying t).run P w = .ok i.desc w := by
  simp [underlying, Sem.run_bind, program, Sem.run, Result.andThen, (hT t i h).und]
theorem run_size (hT : TOk P T) {t : TypeId} {i : TI} (h : T t = some i) (w : World) : (sizeOf t).run P w = .ok i.size w := by
  obtain ⟨ti, z, h1, h2, _⟩ := (hT t i h).info
  simp [sizeOf, typeInfo, Sem.run_bind, program, Sem.run, Result.andThen, h1, h2]
theorem run_agg (hT : TOk P T) {t : TypeId} {i : TI} (h : T t = some i) (w : World) : (isAgg t).run P w = .ok (aggD i.desc) w := by
  unfold isAgg
  simp only [Sem.run_bind, run_und hT h, Result.andThen]
  cases i.desc <;> rfl
theorem run_zero (hT : TOk P T) {t : TypeId} {i : TI} (h : T t = some i) (w : World) : ∃ z, (zeroValue t).run P w = .ok z w ∧ z.cells.toList = i.zero := by
  obtain ⟨ti, z, h1, _, _, h2, h3⟩ := (hT t i h).info
  exact ⟨z, by simp [zeroValue, typeInfo, Sem.run_bind, program, Sem.run, Result.andThen, h1, h2], h3⟩
theorem run_info (hT : TOk P T) {t : TypeId} {i : TI} (h : T t = some i) (w : World) : ∃ ti, (typeInfo t).run P w = .ok ti w ∧ ti.bytes = i.bytes ∧ ti.size = i.size := by
  obtain ⟨ti, z, h1, h4, h5, h2, h3⟩ := (hT t i h).info
  exact ⟨ti, by simp [typeInfo, Sem.run_bind, program, Sem.run, Result.andThen, h1], h5, h4⟩

theorem part_ok (hT : TOk P T) {φ : Fi} {t : TypeId} {as : List AV} {us : List Value} {off : Nat} {r : AV} (h : VRL φ as us) (hp : partA T t as off = some r) :
    ∃ v, VR φ r v ∧ ∀ w : World, (part t us.toArray off).run P w = .ok v w := by
  unfold partA at hp
  split at hp
  · rename_i i hi
    split at hp
    · rename_i ha
      split at hp
      · cases hp
        refine ⟨_, .agg ((h.drop off).take i.size), fun w => ?_⟩
        simp only [part, Sem.run_bind, run_agg hT hi, Result.andThen, ha, if_true, run_size hT hi, Sem.run_pure]
        congr 2
        rw [List.extract_toArray, List.extract_eq_take_drop]
        simp
      · cases hp
    · rename_i ha
      obtain ⟨u, hu, hr⟩ := h.get off r hp
      refine ⟨u, hr, fun w => ?_⟩
      simp [part, Sem.run_bind, run_agg hT hi, Result.andThen, ha, hu]
  · cases hp

theorem load_ok (hT : TOk P T) {φ : Fi} {st : St} {w : World} {t : TypeId} {a : AV} {v : Value} {r : AV} (hr : Rel φ st w) (ha : VR φ a v) (h : loadA T st.h t a = some r) :
    ∃ u, VR φ r u ∧ ∀ w', Same φ st.h w w' → (Instr.loadAt t v).run P w' = .ok u w' := by
  unfold loadA at h
  split at h
  · rename_i id off
    split at h
    · rename_i cs hcs
      obtain ⟨f, ro, ho⟩ : ∃ f ro, st.h.get id = some (.cells f ro cs) := by
        unfold cellsAt at hcs
        split at hcs
        · cases hcs; exact ⟨_, _, by assumption⟩
        · cases hcs
      have hobj := (hr.obj id _ ho).1
      cases ha with
      | ptr _ _ hid =>
        unfold partA at h
        split at h
        · rename_i i hi
          split at h
          · rename_i hag
            split at h
            · rename_i hlen
              cases h
              -- the cells, one by one
              have hex : ∀ j, j < i.size → ∃ u, w.cell? ⟨(φ.f id).b, (φ.f id).o + off + j, none⟩ = some u ∧ ∀ a, cs[off + j]? = some a → VR φ a u := fun j hj => by
                obtain ⟨u, h1, h2⟩ := hobj (off + j) _ (List.getElem?_eq_getElem (by omega))
                exact ⟨u, by rw [Nat.add_assoc]; exact h1, fun a ha => by rw [List.getElem?_eq_getElem (by omega)] at ha; cases ha; exact h2⟩
              let g : Nat → Value := fun j => if hj : j < i.size then (hex j hj).choose else undef
              have hg : ∀ j, j < i.size → w.cell? ⟨(φ.f id).b, (φ.f id).o + off + j, none⟩ = some (g j) ∧ ∀ a, cs[off + j]? = some a → VR φ a (g j) := fun j hj => by
                simp only [g, hj, dif_pos]; exact (hex j hj).choose_spec
              refine ⟨.agg ((List.range i.size).map g).toArray, .agg (VRL.of_get (by simp; omega) fun j a u h1 h2 => ?_), fun w' hw => ?_⟩
              · have hj : j < i.size := by
                  rcases Nat.lt_or_ge j i.size with h | h
                  · exact h
                  · simp [h] at h2
                have : u = g j := by simp [hj] at h2; exact h2.symm
                subst this
                refine (hg j hj).2 a ?_
                rw [List.getElem?_take] at h1
                simpa [hj] using h1
              · have hl := run_loadCells (P := P) w' ⟨(φ.f id).b, (φ.f id).o + off, none⟩ i.size g (fun j hj => by
                  have := (hg j hj).1
                  rw [← this]
                  refine Eq.trans ?_ (cell_of_block (w := w) (w' := w') (a := ⟨(φ.f id).b, (φ.f id).o + off + j, none⟩) (hw id _ ho))
                  unfold Addr.add; split <;> simp_all)
                simp only [Instr.loadAt, loadVar, Sem.run_bind, Instr.sureAddr, Sem.run_pure, Result.andThen, run_agg hT hi, hag, if_true, run_size hT hi, hl]
            · cases h
          · rename_i hag
            obtain ⟨u, h1, h2⟩ := hobj off r h
            refine ⟨u, h2, fun w' hw => ?_⟩
            have h3 : w'.cell? ⟨(φ.f id).b, (φ.f id).o + off, none⟩ = some u := (cell_of_block (w := w) (a := ⟨(φ.f id).b, (φ.f id).o + off, none⟩) (hw id _ ho)).trans h1
            simp [Instr.loadAt, loadVar, Sem.run_bind, Instr.sureAddr, Result.andThen, run_agg hT hi, hag, load, Sem.run, h3]
        · cases h
    · cases h
  · cases h

/-- WHAT A LIGHT OPERATION YIELDS, in every world in which the objects lie as they lay. -/
theorem evL_ok (hT : TOk P T) {φ : Fi} {st : St} {w : World} {ρa : Operand → AV} {ρ : Operand → Value} {o : Oper} {r : AV} (hr : Rel φ st w) (hρ : OpR φ ρa ρ) (h : evL T st.h ρa o = some r) :
    ∃ u, VR φ r u ∧ ∀ w', Same φ st.h w w' → (execOp ρ o).run P w' = .ok (.value u) w' := by
  unfold evL at h
  split at h
  · -- move
    rename_i x hx
    cases h
    exact ⟨ρ x, hρ x, fun w' _ => by simp [execOp, hx]⟩
  · rename_i x hx
    cases h
    exact ⟨ρ x, hρ x, fun w' _ => by simp [execOp, hx]⟩
  · -- pick
    rename_i c a b hx
    split at h
    · rename_i t hc
      cases h
      have h1 := hρ c
      rw [hc] at h1
      have h2 : ρ c = .bool t := h1.lit_inv
      exact ⟨if t then ρ a else ρ b, by cases t; exact hρ b; exact hρ a, fun w' _ => by simp [execOp, hx, h2, asBool]⟩
    · cases h
  · -- load
    rename_i t a hx
    obtain ⟨u, h1, h2⟩ := load_ok (P := P) hT hr (hρ a) h
    exact ⟨u, h1, fun w' hw => by simp [execOp, hx, h2 w' hw, Result.andThen]⟩
  · -- fieldAddr
    rename_i s x f hx
    split at h
    · rename_i id off i hp hs
      split at h
      · rename_i fs hd
        split at h
        · rename_i fd hf
          split at h
          · rename_i j hj
            split at h
            · cases h
            · rename_i hz
              cases h
              have h1 := hρ x
              rw [hp] at h1
              have h3 := h1.ptr_inv
              refine ⟨_, .ptr id (off + fd.offset) h3.2, fun w' _ => ?_⟩
              have ha : (Addr.add ⟨(φ.f id).b, (φ.f id).o + off, none⟩ fd.offset) = ⟨(φ.f id).b, (φ.f id).o + (off + fd.offset), none⟩ := by
                unfold Addr.add; split
                · rename_i h0; simp [h0]
                · simp [Nat.add_assoc]
              simp [execOp, hx, Instr.fieldAt, Sem.run_bind, run_und hT hs, hd, Result.andThen, hf, h3.1, Instr.sureAddr, fieldPlace, run_size hT hj, hz, ha]
          · cases h
        · cases h
      · cases h
    · cases h
  · -- field
    rename_i s x f hx
    split at h
    · rename_i cs i hp hs
      split at h
      · rename_i fs hd
        split at h
        · rename_i fd hf
          have h1 := hρ x
          rw [hp] at h1
          obtain ⟨us, h3, h4⟩ := h1.agg_inv
          obtain ⟨u, h5, h6⟩ := part_ok (P := P) hT h4 h
          refine ⟨u, h5, fun w' _ => ?_⟩
          simp [execOp, hx, Instr.field, Sem.run_bind, run_und hT hs, hd, Result.andThen, hf, h3, asAgg, h6]
        · cases h
      · cases h
    · cases h
  · -- indexAddr
    rename_i t x ix hx
    split at h
    · rename_i k n i hp hs
      have hn : ρ ix = .int k n := by have := hρ ix; rw [hp] at this; exact this.lit_inv
      split at h
      · rename_i len e id off hd hq
        split at h
        · rename_i j hj
          split at h
          · rename_i hb
            cases h
            have h1 := hρ x
            rw [hq] at h1
            have h3 := h1.ptr_inv
            refine ⟨_, .ptr id (off + n.toNat * j.size) h3.2, fun w' _ => ?_⟩
            have ha : (Addr.add ⟨(φ.f id).b, (φ.f id).o + off, none⟩ (n.toNat * j.size)) = ⟨(φ.f id).b, (φ.f id).o + (off + n.toNat * j.size), none⟩ := by
              unfold Addr.add; split
              · rename_i h0; simp [h0]
              · simp [Nat.add_assoc]
            simp [execOp, hx, Instr.indexAt, Sem.run_bind, run_und hT hs, hd, Result.andThen, hn, asIntOf, h3.1, Instr.sureAddr, run_size hT hj, hb, ha]
          · cases h
        · cases h
      · rename_i e id off len sz ex hd hq
        split at h
        · rename_i j hj
          split at h
          · rename_i hb
            cases h
            have h1 := hρ x
            rw [hq] at h1
            obtain ⟨cap, h3, h4, _⟩ := h1.sl_inv
            refine ⟨_, .ptr id (off + n.toNat * sz) h4, fun w' _ => ?_⟩
            have ha : (Addr.add ⟨(φ.f id).b, (φ.f id).o + off, none⟩ (n.toNat * sz)) = ⟨(φ.f id).b, (φ.f id).o + (off + n.toNat * sz), none⟩ := by
              unfold Addr.add; split
              · rename_i h0; simp [h0]
              · simp [Nat.add_assoc]
            obtain ⟨b1, b2, b3⟩ := hb
            simp [execOp, hx, Instr.indexAt, Sem.run_bind, run_und hT hs, hd, Result.andThen, hn, asIntOf, h3, run_size hT hj, b1, b2, b3, ha]
          · cases h
        · cases h
      · cases h
    · cases h
  · -- index
    rename_i t x ix hx
    split at h
    · rename_i k n i cs hp hs hq
      have hn : ρ ix = .int k n := by have := hρ ix; rw [hp] at this; exact this.lit_inv
      split at h
      · rename_i len e hd
        split at h
        · rename_i j hj
          split at h
          · rename_i hb
            have h1 := hρ x
            rw [hq] at h1
            obtain ⟨us, h3, h4⟩ := h1.agg_inv
            obtain ⟨u, h5, h6⟩ := part_ok (P := P) hT h4 h
            refine ⟨u, h5, fun w' _ => ?_⟩
            simp [execOp, hx, Instr.index, Sem.run_bind, run_und hT hs, hd, Result.andThen, hn, asIntOf, h3, run_size hT hj, hb, h6]
          · cases h
        · cases h
      · cases h
    · cases h
  · -- binOp
    rename_i op t x y yt hx
    obtain ⟨u, h1, h2⟩ := bin_ok (P := P) t x y (hρ x) (hρ y) h
    refine ⟨u, h1, fun w' _ => ?_⟩
    simp only [execOp, hx]
    show Sem.run P (do let z ← (do eqGuard op t x y (ρ x) (ρ y); binOp op t (ρ x) (ρ y)); pure (Next.value z)) w' = _
    rw [Sem.run_bind, h2 w']
    rfl
  · -- unOp
    rename_i op t x hx
    split at h
    · rename_i b hq
      cases h
      have h2 : ρ x = .bool b := by have := hρ x; rw [hq] at this; exact this.lit_inv
      exact ⟨.bool !b, .lit _, fun w' _ => by simp [execOp, hx, h2, Op.unary]⟩
    · rename_i k n hq
      cases h
      have h2 : ρ x = .int k n := by have := hρ x; rw [hq] at this; exact this.lit_inv
      exact ⟨_, .lit _, fun w' _ => by simp [execOp, hx, h2, Op.unary, Op.intArith, wrp_eq]⟩
    · cases h
  · -- convert
    rename_i s d x hx
    split at h
    · rename_i i j k n hs hd hq
      split at h
      · rename_i k' hk
        cases h
        have h2 : ρ x = .int k n := by have := hρ x; rw [hq] at this; exact this.lit_inv
        refine ⟨_, .lit _, fun w' _ => ?_⟩
        simp [execOp, hx, h2, convert, Sem.run_bind, run_und hT hs, run_und hT hd, Result.andThen, hk, Conv.intToInt, wrp_eq]
      · cases h
    · cases h
  · -- extract
    rename_i x i hx
    split at h
    · rename_i vs hq
      have h1 := hρ x
      rw [hq] at h1
      obtain ⟨us, h3, h4⟩ := h1.tup_inv
      obtain ⟨u, h5, h6⟩ := h4.get i r h
      exact ⟨u, h6, fun w' _ => by simp [execOp, hx, h3, Instr.extract, h5]⟩
    · cases h
  · -- makeFunc
    rename_i f a b hx
    cases h
    have hl : ∀ l : List Operand, VRL φ (l.map ρa) (l.map ρ) := fun l => by
      induction l with
      | nil => exact .nil
      | cons x l ih => exact .cons (hρ x) ih
    refine ⟨_, .fn f (hl a.toList) (hl b.toList), fun w' _ => ?_⟩
    simp only [execOp, hx, Instr.makeFunc, Sem.run_bind, Sem.run_pure, Result.andThen]
    congr 3 <;> (rw [← Array.toList_map])
  · -- call
    rename_i c hx
    split at h
    · -- len
      rename_i hc
      split at h
      · rename_i x t hca hct
        have ha : c.args = #[x] := by cases hq : c.args; simp_all
        have ht : c.argTypes = #[t] := by cases hq : c.argTypes; simp_all
        split at h
        · rename_i i id off n sz ex hi hq
          split at h
          · rename_i e hd
            cases h
            have h1 := hρ x
            rw [hq] at h1
            obtain ⟨cap, h3, _⟩ := h1.sl_inv
            exact ⟨_, .lit _, fun w' _ => by simp [execOp, hx, resolve, hc, ha, ht, invoke, builtin, Builtin.len_, h3, run_und hT hi, hd, Result.andThen, goInt]⟩
          · cases h
        · rename_i i a n cap hi hq
          split at h
          · rename_i e hd
            cases h
            have h3 : ρ x = .slice a n cap := by have := hρ x; rw [hq] at this; exact this.lit_inv
            exact ⟨_, .lit _, fun w' _ => by simp [execOp, hx, resolve, hc, ha, ht, invoke, builtin, Builtin.len_, h3, run_und hT hi, hd, Result.andThen, goInt]⟩
          · cases h
        · rename_i i _ hi _ _
          split at h
          · rename_i n e hd
            cases h
            exact ⟨_, .lit _, fun w' _ => by simp [execOp, hx, resolve, hc, ha, ht, invoke, builtin, Builtin.len_, run_und hT hi, hd, Result.andThen, goInt]⟩
          · cases h
        · cases h
      · cases h
    · -- min
      rename_i hc
      split at h
      · rename_i x y hca
        have ha : c.args = #[x, y] := by cases hq : c.args; simp_all
        split at h
        · rename_i k m k' n hp hq
          cases h
          have h2 : ρ x = .int k m := by have := hρ x; rw [hp] at this; exact this.lit_inv
          have h3 : ρ y = .int k' n := by have := hρ y; rw [hq] at this; exact this.lit_inv
          exact ⟨_, .lit _, fun w' _ => by simp [execOp, hx, resolve, hc, ha, invoke, builtin, Builtin.min_, Builtin.min2, h2, h3]⟩
        · cases h
      · cases h
    · rename_i hc
      split at h
      · rename_i x y hca
        have ha : c.args = #[x, y] := by cases hq : c.args; simp_all
        split at h
        · rename_i k m k' n hp hq
          cases h
          have h2 : ρ x = .int k m := by have := hρ x; rw [hp] at this; exact this.lit_inv
          have h3 : ρ y = .int k' n := by have := hρ y; rw [hq] at this; exact this.lit_inv
          exact ⟨_, .lit _, fun w' _ => by simp [execOp, hx, resolve, hc, ha, invoke, builtin, Builtin.max_, Builtin.max2, h2, h3]⟩
        · cases h
      · cases h
    · cases h
  · cases h

end
end Go.Ev
