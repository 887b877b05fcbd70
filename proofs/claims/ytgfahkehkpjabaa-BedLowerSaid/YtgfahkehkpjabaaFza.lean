/-
  ABSTRACT VALUES AND HEAPS, and what it means that a world of the model holds one. Own work of the verifier of watercress.
-/
import Derived.RangeFuncLeaves
import Derived.RangeFuncRecord
import Derived.OrdersHeld
import Derived.Laws.Sem
import Derived.Laws.World
import Derived.Laws.NewFold
import Derived.Laws.Cells
import Derived.Laws.Small
import Derived.Laws.Entries
import Derived.Laws.StructEq
import Derived.Laws.AppendOwn
import Derived.Laws.CopyRow
import Derived.Laws.Tables
import Derived.ChangeKeysEq
namespace Go.Fz

/-- A value whose addresses are numbers of objects. -/
inductive AV where
  | any
  | ap (id base n sz i k : Nat)
  | sb (b : Bool)
  | lit (v : Value)
  | ptr (id off : Nat)
  | sl (id off len sz : Nat) (ex : Bool)
  | mp (id : Nat)
  | yld (id : Nat)
  | fn (f : Fn) (first captured : List AV)
  | agg (cs : List AV)
  | tup (vs : List AV)
  | isl (len sz : Nat) (ex : Bool) (g : Nat → Nat → AV)
  | ip (sz k : Nat) (e : Nat → AV)
  deriving Inhabited

/-- The values of a frame; of what isn't listed nothing is known. -/
def getT : List (Nat × AV) → Nat → AV
  | [], _ => .any
  | (j, a) :: r, i => match Nat.beq j i with
    | true => a
    | false => getT r i
structure Ts where
  len : Nat
  get : Nat → AV
def updT (g : Nat → AV) (d : Nat) (v : AV) (i : Nat) : AV := match Nat.beq d i with
  | true => v
  | false => g i
def Ts.put (ts : Ts) (d : Nat) (v : AV) : Ts := match Nat.blt d ts.len with
  | true => ⟨ts.len, updT ts.get d v⟩
  | false => ts
def numbered : Nat → List AV → List (Nat × AV)
  | _, [] => []
  | k, a :: r => (k, a) :: numbered (k + 1) r
def Ts.of (args : List AV) (n : Nat) : Ts := ⟨max args.length n, getT (numbered 0 args)⟩

structure ALoop where
  state : LoopState
  pending : Option Code
  tmps : Ts
  params : Array Tmp
  assign : Code
  body : Code
  dfid : Nat

inductive AObj where
  | cells (fam : Option Nat) (ro : Bool) (cs : List AV)
  | loop (r : ALoop)
  | dfr
  | map (es : List (AV × AV × Nat)) (clock : Nat)
  | iter (mid since : Nat) (seen : List Nat) (last : Nat)

def AObj.own : AObj → Bool
  | .cells _ ro _ => !ro
  | _ => true
def AObj.fam : AObj → Option Nat
  | .cells f _ _ => f
  | _ => none
/-- Two objects that may share their memory: each came from the other, or both from a third, by append. -/
def Mates (a b : AObj) : Prop := ∃ f, a.fam = some f ∧ b.fam = some f

abbrev Hp := List (Nat × AObj)
def Hp.get : Hp → Nat → Option AObj
  | [], _ => none
  | (i, o) :: r, id => if i = id then some o else Hp.get r id
def Hp.set : Hp → Nat → AObj → Hp
  | [], _, _ => []
  | (i, o) :: r, id, o' => if i = id then (i, o') :: r else (i, o) :: Hp.set r id o'

structure St where
  h : Hp
  n : Nat

/-- Where an object lies: block, shift, cells of the block. -/
structure Loc where
  b : Nat
  o : Nat
  n : Nat
structure Fi where
  f : Nat → Loc
  n : Nat
  z : Nat → Option (Nat → Option Value)

mutual
inductive VR (φ : Fi) : AV → Value → Prop
  | any (v : Value) : VR φ .any v
  | sb (b : Bool) : VR φ (.sb b) (.bool b)
  | ap (id base n sz i k : Nat) (h : id < φ.n) : VR φ (.ap id base n sz i k) (.pointer (some ⟨(φ.f id).b, (φ.f id).o + (base + i * sz + k), none⟩))
  | isl (len sz : Nat) (ex : Bool) (g : Nat → Nat → AV) (b o cap : Nat) (c : Nat → Option Value) (us : Nat → Nat → Value) (hz : φ.z b = some c) (hc : ∀ i k, i < len → k < sz → c (o + i * sz + k) = some (us i k))
      (h : ∀ i k, i < len → k < sz → VR φ (g i k) (us i k)) (hcap : len ≤ cap) (hex : ex = true → cap = len) : VR φ (.isl len sz ex g) (.slice (some ⟨b, o, none⟩) len cap)
  | isl0 (sz : Nat) (ex : Bool) (g : Nat → Nat → AV) : VR φ (.isl 0 sz ex g) (.slice none 0 0)
  | ip (sz k : Nat) (e : Nat → AV) (b o : Nat) (c : Nat → Option Value) (us : Nat → Value) (hz : φ.z b = some c) (hc : ∀ j, j < sz → c (o + j) = some (us j))
      (h : ∀ j, j < sz → VR φ (e j) (us j)) : VR φ (.ip sz k e) (.pointer (some ⟨b, o + k, none⟩))
  | lit (v : Value) : VR φ (.lit v) v
  | ptr (id off : Nat) (h : id < φ.n) : VR φ (.ptr id off) (.pointer (some ⟨(φ.f id).b, (φ.f id).o + off, none⟩))
  | sl (id off len sz : Nat) (ex : Bool) (cap : Nat) (h : id < φ.n) (hc : len ≤ cap) (he : ex = true → cap = len) (hs : (φ.f id).o + off + cap * sz ≤ (φ.f id).n) :
      VR φ (.sl id off len sz ex) (.slice (some ⟨(φ.f id).b, (φ.f id).o + off, none⟩) len cap)
  | mp (id : Nat) (h : id < φ.n) : VR φ (.mp id) (.map (some (φ.f id).b))
  | yld (id : Nat) (h : id < φ.n) : VR φ (.yld id) (.func (.yield (φ.f id).b) #[] #[])
  | fn (f : Fn) {as bs : List AV} {us vs : List Value} (h1 : VRL φ as us) (h2 : VRL φ bs vs) : VR φ (.fn f as bs) (.func f us.toArray vs.toArray)
  | agg {as : List AV} {us : List Value} (h : VRL φ as us) : VR φ (.agg as) (.agg us.toArray)
  | tup {as : List AV} {us : List Value} (h : VRL φ as us) : VR φ (.tup as) (.tuple us.toArray)
inductive VRL (φ : Fi) : List AV → List Value → Prop
  | nil : VRL φ [] []
  | cons {a : AV} {u : Value} {as : List AV} {us : List Value} (h : VR φ a u) (t : VRL φ as us) : VRL φ (a :: as) (u :: us)
end

/-- The names given so far stay. -/
structure Ext (φ φ' : Fi) : Prop where
  n : φ.n ≤ φ'.n
  f : ∀ id, id < φ.n → φ'.f id = φ.f id
  z : ∀ b c, φ.z b = some c → φ'.z b = some c

theorem Ext.refl (φ : Fi) : Ext φ φ := ⟨Nat.le_refl _, fun _ _ => rfl, fun _ _ h => h⟩
theorem Ext.trans {a b c : Fi} (h : Ext a b) (k : Ext b c) : Ext a c := ⟨Nat.le_trans h.n k.n, fun id hi => (k.f id (Nat.lt_of_lt_of_le hi h.n)).trans (h.f id hi), fun b c hb => k.z b c (h.z b c hb)⟩

mutual
theorem VR.mono {φ φ' : Fi} (he : Ext φ φ') : {a : AV} → {v : Value} → VR φ a v → VR φ' a v
  | _, _, .any v => .any v
  | _, _, .sb b => .sb b
  | _, _, .ap id base n sz i k h => by
    have h1 := VR.ap (φ := φ') id base n sz i k (Nat.lt_of_lt_of_le h he.n)
    rwa [he.f id h] at h1
  | _, _, .isl len sz ex g b o cap c us hz hc h hcap hex => .isl len sz ex g b o cap c us (he.z b c hz) hc (fun i k hi hk => VR.mono he (h i k hi hk)) hcap hex
  | _, _, .isl0 sz ex g => .isl0 sz ex g
  | _, _, .ip sz k e b o c us hz hc h => .ip sz k e b o c us (he.z b c hz) hc (fun j hj => VR.mono he (h j hj))
  | _, _, .lit v => .lit v
  | _, _, .ptr id off h => by
    have h1 := VR.ptr (φ := φ') id off (Nat.lt_of_lt_of_le h he.n)
    rwa [he.f id h] at h1
  | _, _, .sl id off len sz ex cap h hc hx hs => by
    have h1 := VR.sl (φ := φ') id off len sz ex cap (Nat.lt_of_lt_of_le h he.n) hc hx (by rw [he.f id h]; exact hs)
    rwa [he.f id h] at h1
  | _, _, .mp id h => by
    have h1 := VR.mp (φ := φ') id (Nat.lt_of_lt_of_le h he.n)
    rwa [he.f id h] at h1
  | _, _, .yld id h => by
    have h1 := VR.yld (φ := φ') id (Nat.lt_of_lt_of_le h he.n)
    rwa [he.f id h] at h1
  | _, _, .fn f h1 h2 => .fn f (VRL.mono he h1) (VRL.mono he h2)
  | _, _, .agg h => .agg (VRL.mono he h)
  | _, _, .tup h => .tup (VRL.mono he h)
theorem VRL.mono {φ φ' : Fi} (he : Ext φ φ') : {as : List AV} → {us : List Value} → VRL φ as us → VRL φ' as us
  | _, _, .nil => .nil
  | _, _, .cons h t => .cons (VR.mono he h) (VRL.mono he t)
end

theorem VRL.length {φ : Fi} {as : List AV} {us : List Value} (h : VRL φ as us) : as.length = us.length := by
  induction as generalizing us with
  | nil => cases h; rfl
  | cons a as ih => cases h with | cons h t => simp [ih t]

theorem VRL.get {φ : Fi} {as : List AV} {us : List Value} (h : VRL φ as us) : ∀ (i : Nat) (a : AV), as[i]? = some a → ∃ u, us[i]? = some u ∧ VR φ a u := by
  induction as generalizing us with
  | nil => intro i a ha; simp at ha
  | cons x as ih =>
    cases h with
    | cons h t =>
      intro i a ha
      cases i with
      | zero => simp at ha; subst ha; exact ⟨_, rfl, h⟩
      | succ i => simpa using ih t i a (by simpa using ha)

theorem VRL.of_get {φ : Fi} : ∀ {as : List AV} {us : List Value}, as.length = us.length → (∀ (i : Nat) (a : AV) (u : Value), as[i]? = some a → us[i]? = some u → VR φ a u) → VRL φ as us
  | [], [], _, _ => .nil
  | [], _ :: _, h, _ => by simp at h
  | _ :: _, [], h, _ => by simp at h
  | a :: as, u :: us, hl, h => .cons (h 0 a u rfl rfl) (VRL.of_get (by simpa using hl) fun i a u ha hu => h (i + 1) a u (by simpa using ha) (by simpa using hu))

theorem VRL.append {φ : Fi} {as bs : List AV} {us vs : List Value} (h : VRL φ as us) (k : VRL φ bs vs) : VRL φ (as ++ bs) (us ++ vs) := by
  induction as generalizing us with
  | nil => cases h; exact k
  | cons a as ih => cases h with | cons h t => exact .cons h (ih t)
theorem VRL.drop {φ : Fi} {as : List AV} {us : List Value} (h : VRL φ as us) (n : Nat) : VRL φ (as.drop n) (us.drop n) := by
  induction n generalizing as us with
  | zero => exact h
  | succ n ih => cases h with
    | nil => exact .nil
    | cons h t => exact ih t
theorem VRL.take {φ : Fi} {as : List AV} {us : List Value} (h : VRL φ as us) (n : Nat) : VRL φ (as.take n) (us.take n) := by
  induction n generalizing as us with
  | zero => exact .nil
  | succ n ih => cases h with
    | nil => exact .nil
    | cons h t => exact .cons h (ih t)
theorem VRL.set {φ : Fi} {as : List AV} {us : List Value} {a : AV} {u : Value} (h : VRL φ as us) (i : Nat) (ha : VR φ a u) : VRL φ (as.set i a) (us.set i u) := by
  induction i generalizing as us with
  | zero => cases h with
    | nil => exact .nil
    | cons h t => exact .cons ha t
  | succ i ih => cases h with
    | nil => exact .nil
    | cons h t => exact .cons h (ih t)
theorem VRL.replicate {φ : Fi} {a : AV} {u : Value} (n : Nat) (ha : VR φ a u) : VRL φ (List.replicate n a) (List.replicate n u) := by
  induction n with
  | zero => exact .nil
  | succ n ih => exact .cons ha ih

/-- The cells of an abstract value. -/
def AV.cells : AV → List AV
  | .any => []
  | .lit v => v.cells.toList.map .lit
  | .agg cs => cs
  | a => [a]
theorem VRL.lits {φ : Fi} : ∀ (us : List Value), VRL φ (us.map .lit) us
  | [] => .nil
  | u :: us => .cons (.lit u) (VRL.lits us)
theorem VR.cells {φ : Fi} {a : AV} {v : Value} (h : VR φ a v) (hn : 0 < a.cells.length) : VRL φ a.cells v.cells.toList := by
  cases h with
  | any v => exact absurd hn (by simp [AV.cells])
  | sb b => exact .cons (.sb b) .nil
  | ap id base n sz i k h => exact .cons (.ap id base n sz i k h) .nil
  | isl len sz ex g b o cap c us hz hc h hcap hex => exact .cons (.isl len sz ex g b o cap c us hz hc h hcap hex) .nil
  | isl0 sz ex g => exact .cons (.isl0 sz ex g) .nil
  | ip sz k e b o c us hz hc h => exact .cons (.ip sz k e b o c us hz hc h) .nil
  | lit v => exact VRL.lits _
  | agg h => simpa [AV.cells, Value.cells] using h
  | ptr id off h => exact .cons (.ptr id off h) .nil
  | sl id off len sz ex cap h hc he hs => exact .cons (.sl id off len sz ex cap h hc he hs) .nil
  | mp id h => exact .cons (.mp id h) .nil
  | yld id h => exact .cons (.yld id h) .nil
  | fn f h1 h2 => exact .cons (.fn f h1 h2) .nil
  | tup h => exact .cons (.tup h) .nil

/-- A truth value in a cell is of one form. -/
def AV.norm : AV → AV
  | .lit (.bool b) => .sb b
  | a => a
theorem VR.norm {φ : Fi} {a : AV} {v : Value} (h : VR φ a v) : VR φ a.norm v := by
  unfold AV.norm
  split
  · cases h; exact .sb _
  · exact h
theorem VRL.norm {φ : Fi} : ∀ {as : List AV} {us : List Value}, VRL φ as us → VRL φ (as.map AV.norm) us
  | _, _, .nil => .nil
  | _, _, .cons h t => .cons h.norm t.norm
/-- One cell: no struct, no array, no tuple. -/
def AV.one : AV → Bool
  | .lit v => v.oneCell'
  | .agg _ | .tup _ | .any => false
  | _ => true
theorem VR.one {φ : Fi} {a : AV} {v : Value} (h : VR φ a v) (ha : a.one = true) : v.oneCell' = true := by
  cases h <;> simp_all [AV.one, Value.oneCell']

structure TsR (φ : Fi) (ts : Ts) (tmps : Array Value) : Prop where
  size : tmps.size = ts.len
  get : ∀ i, VR φ (ts.get i) (tmps.getD i (.tuple #[]))
theorem TsR.mono {φ φ' : Fi} (he : Ext φ φ') {ts : Ts} {tmps : Array Value} (h : TsR φ ts tmps) : TsR φ' ts tmps := ⟨h.size, fun i => (h.get i).mono he⟩
theorem getT_put (ts : Ts) (d : Nat) (v : AV) (i : Nat) : (ts.put d v).get i = if d < ts.len ∧ d = i then v else ts.get i := by
  unfold Ts.put
  by_cases h : d < ts.len
  · have : Nat.blt d ts.len = true := by simpa [Nat.blt_eq] using h
    rw [this]
    simp only [updT]
    by_cases hi : d = i
    · subst hi; simp [h]
    · have : Nat.beq d i = false := by rw [← Bool.not_eq_true]; exact fun h => hi (Nat.eq_of_beq_eq_true h)
      rw [this]; simp [hi]
  · have : Nat.blt d ts.len = false := by rw [← Bool.not_eq_true, Nat.blt_eq]; exact h
    rw [this]; simp [h]
theorem Ts.ext {a b : Ts} (h : a.len = b.len) (k : ∀ i, a.get i = b.get i) : a = b := by
  cases a; cases b; simp only at h k; subst h; congr 1; exact funext k
theorem Ts.put_len (ts : Ts) (d : Nat) (v : AV) : (ts.put d v).len = ts.len := by unfold Ts.put; split <;> rfl
theorem Ts.put_comm (ts : Ts) {d e : Nat} (h : d ≠ e) (v u : AV) : (ts.put d v).put e u = (ts.put e u).put d v :=
  Ts.ext (by simp only [Ts.put_len]) fun i => by
    simp only [getT_put, Ts.put_len]
    by_cases h1 : d < ts.len ∧ d = i
    · by_cases h2 : e < ts.len ∧ e = i
      · exact absurd (h1.2.trans h2.2.symm) h
      · simp [h1, h2]
    · by_cases h2 : e < ts.len ∧ e = i <;> simp [h1, h2]
theorem TsR.put {φ : Fi} {ts : Ts} {tmps : Array Value} (h : TsR φ ts tmps) (d : Nat) {v : AV} {u : Value} (hv : VR φ v u) : TsR φ (ts.put d v) (tmps.setIfInBounds d u) := by
  refine ⟨by rw [Ts.put_len, Array.size_setIfInBounds]; exact h.size, fun i => ?_⟩
  rw [getT_put]
  have hi := h.get i
  split
  · rename_i hc
    obtain ⟨h1, rfl⟩ := hc
    rw [← h.size] at h1
    simpa [Array.getD_eq_getD_getElem?, Array.getElem?_setIfInBounds, h1] using hv
  · rename_i hc
    by_cases hd : d = i
    · subst hd
      have : ¬ d < tmps.size := fun h2 => hc ⟨by rw [← h.size]; exact h2, rfl⟩
      rw [Array.setIfInBounds_eq_of_size_le (by omega)]; exact hi
    · simpa [Array.getD_eq_getD_getElem?, Array.getElem?_setIfInBounds, hd] using hi
theorem getT_numbered : ∀ (l : List AV) (k i : Nat), getT (numbered k l) i = if k ≤ i ∧ i < k + l.length then l.getD (i - k) .any else .any
  | [], k, i => by simp [numbered, getT]
  | a :: r, k, i => by
    simp only [numbered, getT]
    by_cases hi : k = i
    · subst hi
      have : Nat.beq k k = true := Nat.beq_refl k
      rw [this]; simp
    · have : Nat.beq k i = false := by rw [← Bool.not_eq_true]; exact fun h => hi (Nat.eq_of_beq_eq_true h)
      rw [this]
      simp only [getT_numbered r (k + 1) i, List.length_cons]
      by_cases h1 : k + 1 ≤ i ∧ i < k + 1 + r.length
      · rw [if_pos h1, if_pos (by omega), show i - k = (i - (k + 1)) + 1 from by omega]; rfl
      · rw [if_neg h1, if_neg (by omega)]
theorem TsR.of {φ : Fi} {as : List AV} {us : List Value} (h : VRL φ as us) (n : Nat) : TsR φ (Ts.of as n) (us.toArray ++ Array.replicate (n - us.length) (.tuple #[])) := by
  have hl := h.length
  refine ⟨by simp [Ts.of]; omega, fun i => ?_⟩
  show VR φ (getT (numbered 0 as) i) _
  rw [getT_numbered]
  split
  · rename_i hi
    have hi' : i < as.length := by omega
    obtain ⟨u, hu, hr⟩ := h.get i (as.getD i .any) (by simp [hi'])
    have : (us.toArray ++ Array.replicate (n - us.length) (Value.tuple #[])).getD i (.tuple #[]) = u := by
      rw [Array.getD_eq_getD_getElem?, Array.getElem?_append_left (by simp; omega)]
      simp [hu]
    rw [this, Nat.sub_zero]; exact hr
  · exact .any _

/-- THE WORLD HOLDS THE OBJECT. -/
def ObjR (φ : Fi) (w : World) (id : Nat) : AObj → Prop
  | .cells _ ro cs => (∀ (i : Nat) (a : AV), cs[i]? = some a → ∃ v, w.cell? ⟨(φ.f id).b, (φ.f id).o + i, none⟩ = some v ∧ VR φ a v) ∧
      (ro = false → ∃ c t, w.heap[(φ.f id).b]? = some (.cells c t (0, 0)) ∧ c.size = (φ.f id).n ∧ (φ.f id).o + cs.length ≤ (φ.f id).n)
  | .loop r => ∃ L : Loop, w.heap[(φ.f id).b]? = some (.loop L) ∧ L.state = r.state ∧ L.pending = r.pending ∧ TsR φ r.tmps L.tmps ∧ L.params = r.params ∧ L.assign = r.assign ∧ L.body = r.body ∧ r.dfid < φ.n ∧ L.defers = (φ.f r.dfid).b
  | .dfr => w.heap[(φ.f id).b]? = some (.deferred (some []))
  | .map es clock => ∃ ces : Array MapEntry, w.heap[(φ.f id).b]? = some (.map ces clock) ∧ ces.size = es.length ∧
      ∀ (i : Nat) (x : AV × AV × Nat), es[i]? = some x → ∃ e, ces[i]? = some e ∧ VR φ x.1 e.key ∧ VR φ x.2.1 e.val ∧ e.born = x.2.2
  | .iter mid since seen last => w.heap[(φ.f id).b]? = some (.mapIter (some (φ.f mid).b) since seen.toArray last) ∧ (φ.f id).o = 0 ∧ mid < φ.n

structure Rel (φ : Fi) (st : St) (w : World) : Prop where
  n : φ.n = st.n
  lt : ∀ id o, st.h.get id = some o → id < st.n
  blk : ∀ id o, st.h.get id = some o → (φ.f id).b < w.heap.size
  obj : ∀ id o, st.h.get id = some o → ObjR φ w id o
  sep : ∀ i j oi oj, st.h.get i = some oi → st.h.get j = some oj → i ≠ j → oi.own = true →
    (φ.f i).b = (φ.f j).b → Mates oi oj ∧ oj.own = true ∧ (φ.f i).o = (φ.f j).o ∧ (φ.f i).n = (φ.f j).n
  fam : ∀ id o f, st.h.get id = some o → o.fam = some f → f < st.n
  froz : ∀ b c, φ.z b = some c → b < w.heap.size ∧ (∀ i v, c i = some v → w.cell? ⟨b, i, none⟩ = some v) ∧ ∀ id o, st.h.get id = some o → o.own = true → (φ.f id).b ≠ b

theorem Hp.get_set (h : Hp) (id : Nat) (o : AObj) (j : Nat) : (h.set id o).get j = if j = id ∧ (h.get id).isSome then some o else h.get j := by
  induction h with
  | nil => simp [Hp.set, Hp.get]
  | cons p r ih =>
    obtain ⟨i, x⟩ := p
    by_cases hi : i = id
    · subst hi
      by_cases hj : j = i
      · subst hj; simp [Hp.set, Hp.get]
      · simp [Hp.set, Hp.get, hj, Ne.symm hj]
    · by_cases hj : j = id
      · subst hj; simp [Hp.set, Hp.get, hi, ih]
      · by_cases hij : i = j
        · subst hij; simp [Hp.set, Hp.get, hj]
        · simp [Hp.set, Hp.get, hi, hij, ih, hj]

theorem ObjR.same {φ φ' : Fi} {w w' : World} {id : Nat} {o : AObj} (he : Ext φ φ') (hid : id < φ.n) (hb : w'.heap[(φ.f id).b]? = w.heap[(φ.f id).b]?) (h : ObjR φ w id o) : ObjR φ' w' id o := by
  have hf := he.f id hid
  cases o with
  | cells fam ro cs =>
    obtain ⟨h1, h2⟩ := h
    refine ⟨fun i a ha => ?_, fun hro => ?_⟩
    · obtain ⟨v, hv, hr⟩ := h1 i a ha
      refine ⟨v, ?_, hr.mono he⟩
      rw [hf]
      unfold World.cell? at hv ⊢
      simp only at hv ⊢
      rw [hb]; exact hv
    · rw [hf, hb]; exact h2 hro
  | loop r =>
    obtain ⟨L, h1, h2, h3, h4, h5, h6, h7, h8, h9⟩ := h
    exact ⟨L, by rw [hf, hb]; exact h1, h2, h3, h4.mono he, h5, h6, h7, Nat.lt_of_lt_of_le h8 he.n, by rw [he.f _ h8]; exact h9⟩
  | dfr => show _ = _; rw [hf, hb]; exact h
  | map es clock =>
    obtain ⟨ces, h1, h2, h3⟩ := h
    refine ⟨ces, by rw [hf, hb]; exact h1, h2, fun i x hx => ?_⟩
    obtain ⟨e, k1, k2, k3, k4⟩ := h3 i x hx
    exact ⟨e, k1, k2.mono he, k3.mono he, k4⟩
  | iter mid since seen last =>
    obtain ⟨h1, h2, h3⟩ := h
    exact ⟨by rw [hf, hb, he.f _ h3]; exact h1, by rw [hf]; exact h2, Nat.lt_of_lt_of_le h3 he.n⟩

theorem Rel.of_heap {φ : Fi} {st : St} {w w' : World} (hr : Rel φ st w) (h : w'.heap = w.heap) : Rel φ st w' :=
  ⟨hr.n, hr.lt, fun id o ho => by rw [h]; exact hr.blk id o ho, fun id o ho => (hr.obj id o ho).same (Ext.refl _) (by rw [hr.n]; exact hr.lt id o ho) (by rw [h]), hr.sep, hr.fam,
   fun b c hb => by
    obtain ⟨h1, h2, h3⟩ := hr.froz b c hb
    refine ⟨by rw [h]; exact h1, fun i v hv => ?_, h3⟩
    have := h2 i v hv
    unfold World.cell? at this ⊢
    rw [h]; exact this⟩

/-- The blocks that the objects own. -/
def Owns (φ : Fi) (st : St) (k : Nat) : Prop := ∃ id o, st.h.get id = some o ∧ o.own = true ∧ (φ.f id).b = k

/-- WHAT A STEP LEAVES ALONE: every block that no object owns; what it comes to own is new. -/
structure Fr (φ : Fi) (st : St) (w : World) (φ' : Fi) (st' : St) (w' : World) : Prop where
  os : w'.os = w.os
  tape : w'.tape = w.tape
  output : w'.output = w.output
  size : w.heap.size ≤ w'.heap.size
  block : ∀ k, k < w.heap.size → ¬ Owns φ st k → w'.heap[k]? = w.heap[k]?
  own : ∀ k, Owns φ' st' k → Owns φ st k ∨ w.heap.size ≤ k
  zs : ∀ b c, φ'.z b = some c → φ.z b = some c ∨ Owns φ st b ∨ w.heap.size ≤ b

theorem Fr.refl (φ : Fi) (st : St) (w : World) : Fr φ st w φ st w := ⟨rfl, rfl, rfl, Nat.le_refl _, fun _ _ _ => rfl, fun _ h => .inl h, fun _ _ h => .inl h⟩
theorem Fr.trans {φ φ' φ'' : Fi} {st st' st'' : St} {w w' w'' : World} (h : Fr φ st w φ' st' w') (k : Fr φ' st' w' φ'' st'' w'') : Fr φ st w φ'' st'' w'' :=
  ⟨k.os.trans h.os, k.tape.trans h.tape, k.output.trans h.output, Nat.le_trans h.size k.size,
   fun i hi ho => (k.block i (Nat.lt_of_lt_of_le hi h.size) (fun hn => (h.own i hn).elim ho (fun hl => by omega))).trans (h.block i hi ho),
   fun i hi => (k.own i hi).elim (h.own i) (fun hl => .inr (Nat.le_trans h.size hl)),
   fun b c hb => (k.zs b c hb).elim (h.zs b c) fun h2 => h2.elim (fun ho => .inr (h.own b ho)) (fun hl => .inr (.inr (Nat.le_trans h.size hl)))⟩

/-- What is frozen stays so. -/
theorem Fr.froz {φ φ' : Fi} {st st' : St} {w w' : World} (h : Fr φ st w φ' st' w') (hr : Rel φ st w) (hz : φ'.z = φ.z) :
    ∀ b c, φ'.z b = some c → b < w'.heap.size ∧ (∀ i v, c i = some v → w'.cell? ⟨b, i, none⟩ = some v) ∧ ∀ id o, st'.h.get id = some o → o.own = true → (φ'.f id).b ≠ b := fun b c hb => by
  rw [hz] at hb
  obtain ⟨h1, h2, h3⟩ := hr.froz b c hb
  have hn : ¬ Owns φ st b := fun ⟨id, o, ho, hown, hbb⟩ => h3 id o ho hown hbb
  refine ⟨Nat.lt_of_lt_of_le h1 h.size, fun i v hv => ?_, fun id o ho hown hbb => ?_⟩
  · have := h2 i v hv
    have hbl := h.block b h1 hn
    unfold World.cell? at this ⊢
    simp only at this ⊢
    rw [hbl]; exact this
  · rcases h.own b ⟨id, o, ho, hown, hbb⟩ with h4 | h4
    · exact hn h4
    · omega
theorem mkRel {φ φ' : Fi} {st st' : St} {w w' : World} (hr : Rel φ st w) (hz : φ'.z = φ.z) (hn : φ'.n = st'.n) (hlt : ∀ id o, st'.h.get id = some o → id < st'.n) (hblk : ∀ id o, st'.h.get id = some o → (φ'.f id).b < w'.heap.size)
    (hobj : ∀ id o, st'.h.get id = some o → ObjR φ' w' id o)
    (hsep : ∀ i j oi oj, st'.h.get i = some oi → st'.h.get j = some oj → i ≠ j → oi.own = true → (φ'.f i).b = (φ'.f j).b → Mates oi oj ∧ oj.own = true ∧ (φ'.f i).o = (φ'.f j).o ∧ (φ'.f i).n = (φ'.f j).n)
    (hfam : ∀ id o f, st'.h.get id = some o → o.fam = some f → f < st'.n) (hf : Fr φ st w φ' st' w') : Rel φ' st' w' ∧ Fr φ st w φ' st' w' :=
  ⟨⟨hn, hlt, hblk, hobj, hsep, hfam, hf.froz hr hz⟩, hf⟩

/-- One name more. -/
def Fi.push (φ : Fi) (l : Loc) : Fi := ⟨fun i => if i = φ.n then l else φ.f i, φ.n + 1, φ.z⟩
def St.push (st : St) (o : AObj) : St := ⟨(st.n, o) :: st.h, st.n + 1⟩
theorem Fi.push_ext (φ : Fi) (l : Loc) : Ext φ (φ.push l) := ⟨by simp [Fi.push], fun id hi => by simp [Fi.push, Nat.ne_of_lt hi], fun _ _ h => h⟩
theorem Fi.push_new (φ : Fi) (l : Loc) : (φ.push l).f φ.n = l := by simp [Fi.push]
theorem Fi.push_n (φ : Fi) (l : Loc) : (φ.push l).n = φ.n + 1 := rfl

theorem St.get_push (st : St) (o : AObj) (j : Nat) : (st.push o).h.get j = if st.n = j then some o else st.h.get j := rfl

theorem Rel.none_new {φ : Fi} {st : St} {w : World} (hr : Rel φ st w) (j : Nat) (hj : st.n ≤ j) : st.h.get j = none := by
  cases h : st.h.get j with
  | none => rfl
  | some o => have := hr.lt j o h; omega

theorem alloc_heap_old (w : World) (o : Obj) (k : Nat) (h : k < w.heap.size) : (w.alloc o).heap[k]? = w.heap[k]? := by
  show (w.heap.push o)[k]? = _
  rw [Array.getElem?_push, if_neg (by omega)]
theorem alloc_heap_new' (w : World) (o : Obj) : (w.alloc o).heap[w.heap.size]? = some o := by
  show (w.heap.push o)[w.heap.size]? = some o
  simp
theorem alloc_size (w : World) (o : Obj) : (w.alloc o).heap.size = w.heap.size + 1 := by
  show (w.heap.push o).size = _
  simp

/-- A NEW OBJECT, alone in a new block. -/
theorem Rel.push {φ : Fi} {st : St} {w : World} (hr : Rel φ st w) (o : Obj) (a : AObj) (l : Loc) (hl : l.b = w.heap.size) (hobj : ObjR (φ.push l) (w.alloc o) φ.n a) (hfm : ∀ f, a.fam = some f → f < st.n) :
    Rel (φ.push l) (st.push a) (w.alloc o) ∧ Fr φ st w (φ.push l) (st.push a) (w.alloc o) := by
  have hold : ∀ id x, st.h.get id = some x → id < φ.n ∧ (φ.push l).f id = φ.f id := fun id x hx => by
    have h1 := hr.lt id x hx
    rw [← hr.n] at h1
    exact ⟨h1, (φ.push_ext l).f id h1⟩
  refine mkRel hr rfl (by simp [Fi.push, St.push, hr.n]) (fun id x hx => ?_) (fun id x hx => ?_) (fun id x hx => ?_) (fun i j oi oj hi hj hij ho => ?_) (fun id x f hx hxf => ?_) ⟨rfl, rfl, rfl, by rw [alloc_size]; omega, fun k hk _ => alloc_heap_old w o k hk, fun k hk => ?_, fun _ _ h => .inl h⟩
  · rw [St.get_push] at hx
    split at hx
    · show _ < st.n + 1; omega
    · show _ < st.n + 1; have := hr.lt id x hx; omega
  · rw [alloc_size]
    rw [St.get_push] at hx
    split at hx
    · rename_i h; rw [← hr.n] at h; subst h; rw [Fi.push_new, hl]; omega
    · rw [(hold id x hx).2]; have := hr.blk id x hx; omega
  · rw [St.get_push] at hx
    split at hx
    · rename_i h; rw [← hr.n] at h; subst h; cases hx; exact hobj
    · exact (hr.obj id x hx).same (φ.push_ext l) (hold id x hx).1 (alloc_heap_old w o _ (hr.blk id x hx))
  · rw [St.get_push] at hi hj
    split at hi
    · rename_i h1
      rw [← hr.n] at h1; subst h1
      split at hj
      · rename_i h2; rw [← hr.n] at h2; exact absurd h2 hij
      · intro hb
        rw [Fi.push_new, (hold j oj hj).2, hl] at hb
        have := hr.blk j oj hj; omega
    · split at hj
      · rename_i h2
        rw [← hr.n] at h2; subst h2
        intro hb
        rw [Fi.push_new, (hold i oi hi).2, hl] at hb
        have := hr.blk i oi hi; omega
      · rw [(hold i oi hi).2, (hold j oj hj).2]
        exact hr.sep i j oi oj hi hj hij ho
  · rw [St.get_push] at hx
    split at hx
    · cases hx; have := hfm f hxf; show _ < st.n + 1; omega
    · have := hr.fam id x f hx hxf; show _ < st.n + 1; omega
  · obtain ⟨id, x, hx, ho, hb⟩ := hk
    rw [St.get_push] at hx
    split at hx
    · rename_i h; rw [← hr.n] at h; subst h; rw [Fi.push_new, hl] at hb; right; omega
    · left; exact ⟨id, x, hx, ho, by rw [← (hold id x hx).2]; exact hb⟩

theorem ObjR.new {φ : Fi} {w : World} {cs : List AV} {us rest : List Value} (h : VRL φ cs us) (c : Array Value) (hc : c.toList = us ++ rest) (t : TypeId) :
    ObjR (φ.push ⟨w.heap.size, 0, c.size⟩) (w.alloc (.cells c t)) φ.n (.cells none false cs) := by
  refine ⟨fun i a ha => ?_, fun _ => ⟨c, t, ?_, by rw [Fi.push_new], ?_⟩⟩
  · obtain ⟨u, hu, hr⟩ := h.get i a ha
    refine ⟨u, ?_, hr.mono (φ.push_ext _)⟩
    rw [Fi.push_new]
    unfold World.cell?
    simp only [alloc_heap_new']
    have : c[i]? = some u := by
      rw [← Array.getElem?_toList, hc, List.getElem?_append_left ((List.getElem?_eq_some_iff.1 hu).1)]
      exact hu
    simpa using this
  · rw [Fi.push_new]; exact alloc_heap_new' w _
  · rw [Fi.push_new]
    have h1 := h.length
    have h2 : c.size = us.length + rest.length := by rw [← Array.length_toList, hc, List.length_append]
    simp only
    omega

/-- AN OBJECT THAT SHARES WITH NONE, turned in its place. -/
theorem Rel.turn {φ : Fi} {st : St} {w w' : World} (hr : Rel φ st w) {id : Nat} {o o' : AObj} (ho : st.h.get id = some o) (hown : o.own = true) (hfam : o.fam = none) (hfam' : o'.fam = none)
    (hos : w'.os = w.os) (htape : w'.tape = w.tape) (hout : w'.output = w.output) (hsize : w'.heap.size = w.heap.size) (hblock : ∀ k, k ≠ (φ.f id).b → w'.heap[k]? = w.heap[k]?) (hobj : ObjR φ w' id o') :
    Rel φ ⟨st.h.set id o', st.n⟩ w' ∧ Fr φ st w φ ⟨st.h.set id o', st.n⟩ w' := by
  have hother : ∀ j x, st.h.get j = some x → j ≠ id → (φ.f j).b ≠ (φ.f id).b := fun j x hx hj hb => by
    obtain ⟨⟨f, hf, _⟩, _⟩ := hr.sep id j o x ho hx (Ne.symm hj) hown hb.symm
    rw [hfam] at hf; cases hf
  have hget : ∀ j x, (st.h.set id o').get j = some x → (j = id ∧ x = o') ∨ (j ≠ id ∧ st.h.get j = some x) := fun j x hx => by
    rw [Hp.get_set] at hx
    by_cases hj : j = id
    · subst hj; left; simpa [ho, eq_comm] using hx
    · right; simpa [hj] using hx
  refine mkRel hr rfl hr.n (fun j x hx => ?_) (fun j x hx => ?_) (fun j x hx => ?_) (fun i j oi oj hi hj hij hio => ?_) (fun j x f hx hxf => ?_) ⟨hos, htape, hout, by omega, fun k hk hn => hblock k (fun hb => hn ⟨id, o, ho, hown, hb.symm⟩), fun k hk => ?_, fun _ _ h => .inl h⟩
  · rcases hget j x hx with ⟨rfl, rfl⟩ | ⟨_, h⟩
    · exact hr.lt j o ho
    · exact hr.lt j x h
  · rw [hsize]
    rcases hget j x hx with ⟨rfl, rfl⟩ | ⟨_, h⟩
    · exact hr.blk j o ho
    · exact hr.blk j x h
  · rcases hget j x hx with ⟨rfl, rfl⟩ | ⟨hj, h⟩
    · exact hobj
    · exact (hr.obj j x h).same (Ext.refl _) (by rw [hr.n]; exact hr.lt j x h) (hblock _ (hother j x h hj))
  · intro hb
    rcases hget i oi hi with ⟨rfl, rfl⟩ | ⟨hi', h1⟩
    · rcases hget j oj hj with ⟨rfl, rfl⟩ | ⟨hj', h2⟩
      · exact absurd rfl hij
      · exact absurd hb.symm (hother j oj h2 hj')
    · rcases hget j oj hj with ⟨rfl, rfl⟩ | ⟨hj', h2⟩
      · exact absurd hb (hother i oi h1 hi')
      · exact hr.sep i j oi oj h1 h2 hij hio hb
  · rcases hget j x hx with ⟨rfl, rfl⟩ | ⟨_, h⟩
    · rw [hfam'] at hxf; cases hxf
    · exact hr.fam j x f h hxf
  · obtain ⟨j, x, hx, hxo, hb⟩ := hk
    left
    rcases hget j x hx with ⟨rfl, rfl⟩ | ⟨_, h⟩
    · exact ⟨j, o, ho, hown, hb⟩
    · exact ⟨j, x, h, hxo, hb⟩

end Go.Fz

/-
  LIGHT OPERATIONS on abstract values: what they yield, and that the model's operation yields what is meant. Own work of the verifier of watercress.
-/
namespace Go.Fz

/-- What is known of a type. -/
structure TI where
  desc : TypeDesc
  size : Nat
  bytes : Nat
  zero : List Value
  flat : Bool := false

def Ti := TypeId → Option TI

structure TOk1 (P : Program) (t : TypeId) (i : TI) : Prop where
  und : P.underlying t = some i.desc
  info : ∃ ti z, P.info? t = some ti ∧ ti.size = i.size ∧ ti.bytes = i.bytes ∧ ti.zero = some z ∧ z.cells.toList = i.zero
  flat : i.flat = true → P.stoodInHeld t = false ∧ P.eqGuardType P.depth t = false
def TOk (P : Program) (T : Ti) : Prop := ∀ t i, T t = some i → TOk1 P t i

def aggD : TypeDesc → Bool
  | .struct _ | .array _ _ => true
  | _ => false

/-- The kind's own range. -/
def IntKind.lo : IntKind → Int
  | .i8 => -128 | .i16 => -32768 | .i32 => -2147483648 | .i64 => -9223372036854775808 | _ => 0
def IntKind.hi : IntKind → Int
  | .i8 => 127 | .i16 => 32767 | .i32 => 2147483647 | .i64 => 9223372036854775807
  | .u8 => 255 | .u16 => 65535 | .u32 => 4294967295 | .u64 => 18446744073709551615
def wrp (k : IntKind) (n : Int) : Int := if IntKind.lo k ≤ n ∧ n ≤ IntKind.hi k then n else k.wrap n
theorem wrap_in (k : IntKind) (n : Int) (h : IntKind.lo k ≤ n ∧ n ≤ IntKind.hi k) : k.wrap n = n := by
  cases k <;> simp only [IntKind.lo, IntKind.hi] at h <;> simp only [IntKind.wrap, IntKind.bits, IntKind.signed] <;> simp <;> omega
theorem wrp_eq (k : IntKind) (n : Int) : wrp k n = k.wrap n := by
  unfold wrp; split
  · rename_i h; exact (wrap_in k n h).symm
  · rfl
theorem wrp_in {k : IntKind} {n : Int} (h1 : IntKind.lo k ≤ n) (h2 : n ≤ IntKind.hi k) : wrp k n = n := if_pos ⟨h1, h2⟩

def ofV : Value → AV
  | .agg cs => .agg (cs.toList.map .lit)
  | .func f a b => if a.size = 0 ∧ b.size = 0 then .fn f [] [] else .lit (.func f a b)
  | v => .lit v
theorem ofV_ok (φ : Fi) (v : Value) : VR φ (ofV v) v := by
  cases v <;> simp only [ofV] <;> first | exact .lit _ | skip
  · split
    · rename_i f a b h
      have ha : a = #[] := Array.eq_empty_of_size_eq_zero h.1
      have hb : b = #[] := Array.eq_empty_of_size_eq_zero h.2
      subst ha; subst hb
      exact .fn f .nil .nil
    · exact .lit _
  · rename_i cs
    exact .agg (us := cs.toList) (VRL.lits _)

def undA : AV := .lit (.tuple #[])

def Operand.av (ts : Ts) : Operand → AV
  | .tmp t => ts.get t
  | .const v => ofV v
  | .global g => .lit (.pointer (some ⟨g, 0, none⟩))
  | .func f => .fn (.func f) [] []

/-- Operand by operand. -/
def OpR (φ : Fi) (ρa : Operand → AV) (ρ : Operand → Value) : Prop := ∀ x, VR φ (ρa x) (ρ x)

theorem opR_of {φ : Fi} {ts : Ts} {a : Act} (h : TsR φ ts a.tmps) : OpR φ (Operand.av ts) a.eval := by
  intro x
  cases x with
  | tmp t => exact h.get t
  | const v => exact ofV_ok φ v
  | global g => exact .lit _
  | func f => exact .fn _ .nil .nil

theorem VR.lit_inv {φ : Fi} {v u : Value} (h : VR φ (.lit v) u) : u = v := by cases h; rfl
theorem VR.ptr_inv {φ : Fi} {id off : Nat} {u : Value} (h : VR φ (.ptr id off) u) : u = .pointer (some ⟨(φ.f id).b, (φ.f id).o + off, none⟩) ∧ id < φ.n := by cases h; exact ⟨rfl, by assumption⟩
theorem VR.sl_inv {φ : Fi} {id off len sz : Nat} {ex : Bool} {u : Value} (h : VR φ (.sl id off len sz ex) u) :
    ∃ cap, u = .slice (some ⟨(φ.f id).b, (φ.f id).o + off, none⟩) len cap ∧ id < φ.n ∧ len ≤ cap ∧ (ex = true → cap = len) ∧ (φ.f id).o + off + cap * sz ≤ (φ.f id).n := by
  cases h; exact ⟨_, rfl, by assumption, by assumption, by assumption, by assumption⟩
theorem VR.agg_inv {φ : Fi} {cs : List AV} {u : Value} (h : VR φ (.agg cs) u) : ∃ us : List Value, u = .agg us.toArray ∧ VRL φ cs us := by cases h with | agg h => exact ⟨_, rfl, h⟩
theorem VR.tup_inv {φ : Fi} {cs : List AV} {u : Value} (h : VR φ (.tup cs) u) : ∃ us : List Value, u = .tuple us.toArray ∧ VRL φ cs us := by cases h with | tup h => exact ⟨_, rfl, h⟩
theorem VR.fn_inv {φ : Fi} {f : Fn} {as bs : List AV} {u : Value} (h : VR φ (.fn f as bs) u) : ∃ us vs : List Value, u = .func f us.toArray vs.toArray ∧ VRL φ as us ∧ VRL φ bs vs := by
  cases h with | fn f h1 h2 => exact ⟨_, _, rfl, h1, h2⟩
theorem VR.mp_inv {φ : Fi} {id : Nat} {u : Value} (h : VR φ (.mp id) u) : u = .map (some (φ.f id).b) ∧ id < φ.n := by cases h; exact ⟨rfl, by assumption⟩
theorem VR.sb_inv {φ : Fi} {b : Bool} {u : Value} (h : VR φ (.sb b) u) : u = .bool b := by cases h; rfl
/-- A pointer into an object. -/
def ptrOf : AV → Option (Nat × Nat)
  | .ptr id off => some (id, off)
  | .ap id base _ sz i k => some (id, base + i * sz + k)
  | _ => none
theorem ptrOf_ok {φ : Fi} {a : AV} {u : Value} {id off : Nat} (h : ptrOf a = some (id, off)) (hv : VR φ a u) : VR φ (.ptr id off) u := by
  unfold ptrOf at h
  split at h
  · cases h; exact hv
  · cases h
    cases hv with
    | ap id base n sz i k hid => exact .ptr id _ hid
  · cases h
theorem VR.isl_inv {φ : Fi} {len sz : Nat} {g : Nat → Nat → AV} {u : Value} {ex : Bool} (h : VR φ (.isl len sz ex g) u) : (len = 0 ∧ u = .slice none 0 0) ∨
    ∃ (b o cap : Nat) (c : Nat → Option Value) (us : Nat → Nat → Value), u = .slice (some ⟨b, o, none⟩) len cap ∧ φ.z b = some c ∧ (∀ i k, i < len → k < sz → c (o + i * sz + k) = some (us i k)) ∧ (∀ i k, i < len → k < sz → VR φ (g i k) (us i k)) ∧ len ≤ cap ∧ (ex = true → cap = len) := by
  cases h with
  | isl _ _ _ _ b o cap c us hz hc h hcap hex => exact .inr ⟨b, o, cap, c, us, rfl, hz, hc, h, hcap, hex⟩
  | isl0 => exact .inl ⟨rfl, rfl⟩
theorem VR.ip_inv {φ : Fi} {sz k : Nat} {e : Nat → AV} {u : Value} (h : VR φ (.ip sz k e) u) :
    ∃ (b o : Nat) (c : Nat → Option Value) (us : Nat → Value), u = .pointer (some ⟨b, o + k, none⟩) ∧ φ.z b = some c ∧ (∀ j, j < sz → c (o + j) = some (us j)) ∧ ∀ j, j < sz → VR φ (e j) (us j) := by
  cases h with
  | ip _ _ _ b o c us hz hc h => exact ⟨b, o, c, us, rfl, hz, hc, h⟩
theorem VR.yld_inv {φ : Fi} {id : Nat} {u : Value} (h : VR φ (.yld id) u) : u = .func (.yield (φ.f id).b) #[] #[] ∧ id < φ.n := by cases h; exact ⟨rfl, by assumption⟩

/-- What has the one as its abstract value has the other. -/
def Eqv (a b : AV) : Prop := ∀ (φ : Fi) (u : Value), VR φ a u → VR φ b u
theorem Eqv.refl (a : AV) : Eqv a a := fun _ _ h => h
theorem Eqv.of {a b : AV} (h : a = b) : Eqv a b := by subst h; exact Eqv.refl a

def partA (T : Ti) (t : TypeId) (cs : List AV) (off : Nat) : Option AV :=
  match T t with
  | some i => if aggD i.desc then (if off + i.size ≤ cs.length then some (.agg ((cs.drop off).take i.size)) else none) else cs[off]?
  | none => none

/-- The cells that a pointer's object holds. -/
def cellsAt (h : Hp) (id : Nat) : Option (List AV) :=
  match h.get id with
  | some (.cells _ _ cs) => some cs
  | _ => none

def cellsFrom (e : Nat → AV) : Nat → Nat → List AV
  | _, 0 => []
  | k, n + 1 => e k :: cellsFrom e (k + 1) n
theorem cellsFrom_get (e : Nat → AV) : ∀ (n k j : Nat), (cellsFrom e k n)[j]? = if j < n then some (e (k + j)) else none
  | 0, k, j => by simp [cellsFrom]
  | n + 1, k, 0 => by simp [cellsFrom]
  | n + 1, k, j + 1 => by simp [cellsFrom, cellsFrom_get e n (k + 1) j, Nat.add_assoc, Nat.add_comm 1 j]
theorem cellsFrom_length (e : Nat → AV) : ∀ (n k : Nat), (cellsFrom e k n).length = n
  | 0, k => rfl
  | n + 1, k => by simp [cellsFrom, cellsFrom_length e n (k + 1)]
def loadA (T : Ti) (h : Hp) (t : TypeId) : AV → Option AV
  | .ip sz k e =>
    match T t with
    | some i => if aggD i.desc then (if k + i.size ≤ sz then some (.agg (cellsFrom e k i.size)) else none) else if k < sz then some (e k) else none
    | none => none
  | a => match ptrOf a with
    | some (id, off) => match cellsAt h id with
      | some cs => partA T t cs off
      | none => none
    | none => none

def intCmpB (op : BinOp) (x y : Int) : Option Bool :=
  match op with
  | .eql => some (x == y)
  | .neq => some (x != y)
  | .lss => some (decide (x < y))
  | .leq => some (decide (x ≤ y))
  | .gtr => some (decide (x > y))
  | .geq => some (decide (x ≥ y))
  | _ => none

def bitsA (op : BinOp) (k : IntKind) (x y : Int) : Option Int :=
  match op with
  | .and => some (k.wrap (BitVec.ofInt k.bits x &&& BitVec.ofInt k.bits y).toNat)
  | .or => some (k.wrap (BitVec.ofInt k.bits x ||| BitVec.ofInt k.bits y).toNat)
  | .xor => some (k.wrap (BitVec.ofInt k.bits x ^^^ BitVec.ofInt k.bits y).toNat)
  | .andNot => some (k.wrap (BitVec.ofInt k.bits x &&& ~~~ BitVec.ofInt k.bits y).toNat)
  | _ => none

def binA (op : BinOp) (a b : AV) : Option AV :=
  match a, b with
  | .lit (.int k x), .lit (.int k' y) =>
    match op with
    | .shl => if 0 ≤ y then some (.lit (.int k (wrp k (x * 2 ^ (min y.toNat k.bits))))) else none
    | .shr => if 0 ≤ y then some (.lit (.int k (x.fdiv (2 ^ (min y.toNat k.bits))))) else none
    | .add => if k = k' then some (.lit (.int k (wrp k (x + y)))) else none
    | .sub => if k = k' then some (.lit (.int k (wrp k (x - y)))) else none
    | .mul => if k = k' then some (.lit (.int k (wrp k (x * y)))) else none
    | .quo => if k = k' ∧ y ≠ 0 then some (.lit (.int k (wrp k (x.tdiv y)))) else none
    | .rem => if k = k' ∧ y ≠ 0 then some (.lit (.int k (x.tmod y))) else none
    | .and => if k = k' then (bitsA .and k x y).map fun n => .lit (.int k n) else none
    | .or => if k = k' then (bitsA .or k x y).map fun n => .lit (.int k n) else none
    | .xor => if k = k' then (bitsA .xor k x y).map fun n => .lit (.int k n) else none
    | .andNot => if k = k' then (bitsA .andNot k x y).map fun n => .lit (.int k n) else none
    | op => if k = k' then (intCmpB op x y).map fun b => .sb b else none
  | _, _ => none

theorem bin_ok {P : Program} {φ : Fi} {op : BinOp} {a b : AV} {u v : Value} {r : AV} (t : TypeId) (x y : Operand) (ha : VR φ a u) (hb : VR φ b v) (h : binA op a b = some r) :
    ∃ z, VR φ r z ∧ ∀ w, (do eqGuard op t x y u v; binOp op t u v : Sem Value).run P w = .ok z w := by
  unfold binA at h
  split at h
  · rename_i k m k' n
    cases ha; cases hb
    have hg : ∀ w, (eqGuard op t x y (.int k m) (.int k' n)).run P w = .ok () w := fun w => by
      unfold eqGuard
      split <;> simp
    have key : ∀ z : Value, (∀ w, (binOp op t (.int k m) (.int k' n)).run P w = .ok z w) → VR φ r z →
        ∃ z, VR φ r z ∧ ∀ w, (do eqGuard op t x y (.int k m) (.int k' n); binOp op t (.int k m) (.int k' n) : Sem Value).run P w = .ok z w := fun z hz hr =>
      ⟨z, hr, fun w => by simp [Sem.run_bind, hg, Result.andThen, hz]⟩
    cases op <;> simp only at h
    case shl =>
      split at h
      · rename_i hy; cases h
        exact key _ (by simp [binOp, Op.shift, show ¬ n < 0 from by omega, wrp_eq]) (.lit _)
      · cases h
    case shr =>
      split at h
      · rename_i hy; cases h
        exact key _ (by simp [binOp, Op.shift, show ¬ n < 0 from by omega]) (.lit _)
      · cases h
    case quo =>
      split at h
      · rename_i hk; obtain ⟨rfl, hy⟩ := hk; cases h
        exact key _ (by simp [binOp, Op.intDiv, hy, wrp_eq]) (.lit _)
      · cases h
    case rem =>
      split at h
      · rename_i hk; obtain ⟨rfl, hy⟩ := hk; cases h
        exact key _ (by simp [binOp, Op.intDiv, hy]) (.lit _)
      · cases h
    case eql | neq | lss | leq | gtr | geq =>
      split at h
      · rename_i hk; subst hk
        simp only [intCmpB, Option.map_some, Option.some.injEq] at h
        exact key _ (by simp [binOp, Op.intCmp]; rfl) (by rw [← h]; exact .sb _)
      · cases h
    all_goals
      split at h
      · rename_i hk; subst hk
        simp only [bitsA, Option.map_some, Option.some.injEq] at h
        subst h
        exact (fun hv hz => key _ hz hv) (.lit _) (by simp [binOp, Op.intArith, Op.intBits, wrp_eq])
      · cases h
  · cases h

/-- Operations that look, and reckon: nothing turns. -/
def evL (T : Ti) (h : Hp) (ρ : Operand → AV) (o : Oper) : Option AV :=
  match o.op with
  | .move x | .assign x => some (ρ x)
  | .pick c a b => match ρ c with
    | .lit (.bool t) => some (if t then ρ a else ρ b)
    | _ => none
  | .load t a => loadA T h t (ρ a)
  | .fieldAddr s x f => match ρ x, T s with
    | .ap id base n sz i k, some ti => match ti.desc with
      | .struct fs => match fs[f]? with
        | some fd => match T fd.type with
          | some j => if j.size = 0 then none else some (.ap id base n sz i (k + fd.offset))
          | none => none
        | none => none
      | _ => none
    | .ip sz k e, some i => match i.desc with
      | .struct fs => match fs[f]? with
        | some fd => match T fd.type with
          | some j => if j.size = 0 then none else some (.ip sz (k + fd.offset) e)
          | none => none
        | none => none
      | _ => none
    | .ptr id off, some i => match i.desc with
      | .struct fs => match fs[f]? with
        | some fd => match T fd.type with
          | some j => if j.size = 0 then none else some (.ptr id (off + fd.offset))
          | none => none
        | none => none
      | _ => none
    | _, _ => none
  | .field s x f => match ρ x, T s with
    | .agg cs, some i => match i.desc with
      | .struct fs => match fs[f]? with
        | some fd => partA T fd.type cs fd.offset
        | none => none
      | _ => none
    | _, _ => none
  | .indexAddr t x ix => match ρ ix, T t with
    | .lit (.int _ n), some i => match i.desc, ρ x with
      | .array len e, .ptr id off => match T e with
        | some j => if 0 ≤ n ∧ n < len then some (.ap id off len j.size n.toNat 0) else none
        | none => none
      | .slice e, .sl id off len sz _ => match T e with
        | some j => if 0 ≤ n ∧ n < len ∧ j.size = sz then some (.ptr id (off + n.toNat * sz)) else none
        | none => none
      | .slice e, .isl len sz _ g => match T e with
        | some j => if 0 ≤ n ∧ n < len ∧ j.size = sz then some (.ip sz 0 (g n.toNat)) else none
        | none => none
      | _, _ => none
    | _, _ => none
  | .index t x ix => match ρ ix, T t, ρ x with
    | .lit (.int _ n), some i, .agg cs => match i.desc with
      | .array len e => match T e with
        | some j => if 0 ≤ n ∧ n < len then partA T e cs (n.toNat * j.size) else none
        | none => none
      | _ => none
    | _, _, _ => none
  | .binOp op _ x y _ => binA op (ρ x) (ρ y)
  | .unOp op _ x => match op, ρ x with
    | .not, .lit (.bool b) => some (.lit (.bool !b))
    | .not, .sb b => some (.sb !b)
    | .neg, .lit (.int k n) => some (.lit (.int k (wrp k (0 - n))))
    | _, _ => none
  | .convert s d x => match T s, T d, ρ x with
    | some _, some j, .lit (.int _ n) => match j.desc with
      | .int k => some (.lit (.int k (wrp k n)))
      | _ => none
    | _, _, _ => none
  | .extract x i => match ρ x with
    | .tup vs => vs[i]?
    | _ => none
  | .makeFunc f a b => some (.fn f (a.toList.map ρ) (b.toList.map ρ))
  | .call c => match c.callee with
    | .builtin .len => match c.args.toList, c.argTypes.toList with
      | [x], [t] => match T t, ρ x with
        | some i, .sl _ _ n _ _ => match i.desc with
          | .slice _ => some (.lit (.int .i64 n))
          | _ => none
        | some i, .lit (.slice _ n _) => match i.desc with
          | .slice _ => some (.lit (.int .i64 n))
          | _ => none
        | some i, .isl n _ _ _ => match i.desc with
          | .slice _ => some (.lit (.int .i64 n))
          | _ => none
        | some i, _ => match i.desc with
          | .array n _ => some (.lit (.int .i64 n))
          | _ => none
        | _, _ => none
      | _, _ => none
    | .builtin .min => match c.args.toList with
      | [x, y] => match ρ x, ρ y with
        | .lit (.int k a), .lit (.int _ b) => some (.lit (.int k (if b < a then b else a)))
        | _, _ => none
      | _ => none
    | .builtin .max => match c.args.toList with
      | [x, y] => match ρ x, ρ y with
        | .lit (.int k a), .lit (.int _ b) => some (.lit (.int k (if b > a then b else a)))
        | _, _ => none
      | _ => none
    | _ => none
  | _ => none

/-- The objects of a heap lie as they lay. -/
structure Same (φ : Fi) (h : Hp) (w w' : World) : Prop where
  obj : ∀ id o, h.get id = some o → w'.heap[(φ.f id).b]? = w.heap[(φ.f id).b]?
  froz : ∀ b c, φ.z b = some c → w'.heap[b]? = w.heap[b]?
theorem Same.refl (φ : Fi) (h : Hp) (w : World) : Same φ h w w := ⟨fun _ _ _ => rfl, fun _ _ _ => rfl⟩

theorem cell_of_block {w w' : World} {a : Addr} (h : w'.heap[a.block]? = w.heap[a.block]?) : w'.cell? a = w.cell? a := by
  unfold World.cell?; rw [h]

section
variable {P : Program} {T : Ti}

theorem run_und (hT : TOk P T) {t : TypeId} {i : TI} (h : T t = some i) (w : World) : (underlying t).run P w = .ok i.desc w := by
  simp [underlying, Sem.run_bind, program, Sem.run, Result.andThen, (hT t i h).und]
theorem run_size (hT : TOk P T) {t : TypeId} {i : TI} (h : T t = some i) (w : World) : (sizeOf t).run P w = .ok i.size w := by
  obtain ⟨ti, z, h1, h2, _⟩ := (hT t i h).info
  simp [sizeOf, typeInfo, Sem.run_bind, program, Sem.run, Result.andThen, h1, h2]
theorem run_agg (hT : TOk P T) {t : TypeId} {i : TI} (h : T t = some i) (w : World) : (isAgg t).run P w = .ok (aggD i.desc) w := by
  unfold isAgg
  simp only [Sem.run_bind, run_und hT h, Result.andThen]
  cases i.desc <;> rfl
theorem run_zero (hT : TOk P T) {t : TypeId} {i : TI} (h : T t = some i) (w : World) : ∃ z, (zeroValue t).run P w = .ok z w ∧ z.cells.toList = i.zero := by
  obtain ⟨ti, z, h1, _, _, h2, h3⟩ := (hT t i h).info
  exact ⟨z, by simp [zeroValue, typeInfo, Sem.run_bind, program, Sem.run, Result.andThen, h1, h2], h3⟩
theorem run_info (hT : TOk P T) {t : TypeId} {i : TI} (h : T t = some i) (w : World) : ∃ ti, (typeInfo t).run P w = .ok ti w ∧ ti.bytes = i.bytes ∧ ti.size = i.size := by
  obtain ⟨ti, z, h1, h4, h5, h2, h3⟩ := (hT t i h).info
  exact ⟨ti, by simp [typeInfo, Sem.run_bind, program, Sem.run, Result.andThen, h1], h5, h4⟩

theorem part_ok (hT : TOk P T) {φ : Fi} {t : TypeId} {as : List AV} {us : List Value} {off : Nat} {r : AV} (h : VRL φ as us) (hp : partA T t as off = some r) :
    ∃ v, VR φ r v ∧ ∀ w : World, (part t us.toArray off).run P w = .ok v w := by
  unfold partA at hp
  split at hp
  · rename_i i hi
    split at hp
    · rename_i ha
      split at hp
      · cases hp
        refine ⟨_, .agg ((h.drop off).take i.size), fun w => ?_⟩
        simp only [part, Sem.run_bind, run_agg hT hi, Result.andThen, ha, if_true, run_size hT hi, Sem.run_pure]
        congr 2
        rw [List.extract_toArray, List.extract_eq_take_drop]
        simp
      · cases hp
    · rename_i ha
      obtain ⟨u, hu, hr⟩ := h.get off r hp
      refine ⟨u, hr, fun w => ?_⟩
      simp [part, Sem.run_bind, run_agg hT hi, Result.andThen, ha, hu]
  · cases hp

theorem load_ok (hT : TOk P T) {φ : Fi} {st : St} {w : World} {t : TypeId} {a : AV} {v : Value} {r : AV} (hr : Rel φ st w) (ha : VR φ a v) (h : loadA T st.h t a = some r) :
    ∃ u, VR φ r u ∧ ∀ w', Same φ st.h w w' → (Instr.loadAt t v).run P w' = .ok u w' := by
  unfold loadA at h
  split at h
  · rename_i sz k e
    split at h
    · rename_i i hi
      obtain ⟨b, o, c, us, rfl, hz, hc, hus⟩ := ha.ip_inv
      have hcell : ∀ w', Same φ st.h w w' → ∀ j, j < sz → w'.cell? ⟨b, o + j, none⟩ = some (us j) := fun w' hw j hj => by
        rw [cell_of_block (w := w) (a := ⟨b, o + j, none⟩) (hw.froz b c hz)]
        exact (hr.froz b c hz).2.1 _ _ (hc j hj)
      split at h
      · rename_i hag
        split at h
        · rename_i hlen
          cases h
          refine ⟨.agg ((List.range i.size).map fun j => us (k + j)).toArray, .agg (VRL.of_get (by simp [cellsFrom_length]) fun j a u h1 h2 => ?_), fun w' hw => ?_⟩
          · rw [cellsFrom_get] at h1
            split at h1
            · rename_i hj
              cases h1
              have : u = us (k + j) := by simp [hj] at h2; exact h2.symm
              subst this
              exact hus _ (by omega)
            · cases h1
          · have hl := run_loadCells (P := P) w' ⟨b, o + k, none⟩ i.size (fun j => us (k + j)) (fun j hj => by
              have := hcell w' hw (k + j) (by omega)
              rw [← this]
              unfold Addr.add; split
              · rename_i h0; simp [h0]
              · simp [Nat.add_assoc])
            simp only [Instr.loadAt, loadVar, Sem.run_bind, Instr.sureAddr, Sem.run_pure, Result.andThen, run_agg hT hi, hag, if_true, run_size hT hi, hl]
        · cases h
      · rename_i hag
        split at h
        · rename_i hk
          cases h
          refine ⟨us k, hus k hk, fun w' hw => ?_⟩
          have h3 := hcell w' hw k hk
          simp [Instr.loadAt, loadVar, Sem.run_bind, Instr.sureAddr, Result.andThen, run_agg hT hi, hag, load, Sem.run, h3]
        · cases h
    · cases h
  · rename_i a' hne
    split at h
    rotate_left
    · cases h
    rename_i id off hpt
    replace ha := ptrOf_ok hpt ha
    split at h
    · rename_i cs hcs
      obtain ⟨f, ro, ho⟩ : ∃ f ro, st.h.get id = some (.cells f ro cs) := by
        unfold cellsAt at hcs
        split at hcs
        · cases hcs; exact ⟨_, _, by assumption⟩
        · cases hcs
      have hobj := (hr.obj id _ ho).1
      cases ha with
      | ptr _ _ hid =>
        unfold partA at h
        split at h
        · rename_i i hi
          split at h
          · rename_i hag
            split at h
            · rename_i hlen
              cases h
              -- the cells, one by one
              have hex : ∀ j, j < i.size → ∃ u, w.cell? ⟨(φ.f id).b, (φ.f id).o + off + j, none⟩ = some u ∧ ∀ a, cs[off + j]? = some a → VR φ a u := fun j hj => by
                obtain ⟨u, h1, h2⟩ := hobj (off + j) _ (List.getElem?_eq_getElem (by omega))
                exact ⟨u, by rw [Nat.add_assoc]; exact h1, fun a ha => by rw [List.getElem?_eq_getElem (by omega)] at ha; cases ha; exact h2⟩
              let g : Nat → Value := fun j => if hj : j < i.size then (hex j hj).choose else undef
              have hg : ∀ j, j < i.size → w.cell? ⟨(φ.f id).b, (φ.f id).o + off + j, none⟩ = some (g j) ∧ ∀ a, cs[off + j]? = some a → VR φ a (g j) := fun j hj => by
                simp only [g, hj, dif_pos]; exact (hex j hj).choose_spec
              refine ⟨.agg ((List.range i.size).map g).toArray, .agg (VRL.of_get (by simp; omega) fun j a u h1 h2 => ?_), fun w' hw => ?_⟩
              · have hj : j < i.size := by
                  rcases Nat.lt_or_ge j i.size with h | h
                  · exact h
                  · simp [h] at h2
                have : u = g j := by simp [hj] at h2; exact h2.symm
                subst this
                refine (hg j hj).2 a ?_
                rw [List.getElem?_take] at h1
                simpa [hj] using h1
              · have hl := run_loadCells (P := P) w' ⟨(φ.f id).b, (φ.f id).o + off, none⟩ i.size g (fun j hj => by
                  have := (hg j hj).1
                  rw [← this]
                  refine Eq.trans ?_ (cell_of_block (w := w) (w' := w') (a := ⟨(φ.f id).b, (φ.f id).o + off + j, none⟩) (hw.obj id _ ho))
                  unfold Addr.add; split <;> simp_all)
                simp only [Instr.loadAt, loadVar, Sem.run_bind, Instr.sureAddr, Sem.run_pure, Result.andThen, run_agg hT hi, hag, if_true, run_size hT hi, hl]
            · cases h
          · rename_i hag
            obtain ⟨u, h1, h2⟩ := hobj off r h
            refine ⟨u, h2, fun w' hw => ?_⟩
            have h3 : w'.cell? ⟨(φ.f id).b, (φ.f id).o + off, none⟩ = some u := (cell_of_block (w := w) (a := ⟨(φ.f id).b, (φ.f id).o + off, none⟩) (hw.obj id _ ho)).trans h1
            simp [Instr.loadAt, loadVar, Sem.run_bind, Instr.sureAddr, Result.andThen, run_agg hT hi, hag, load, Sem.run, h3]
        · cases h
    · cases h

/-- WHAT A LIGHT OPERATION YIELDS, in every world in which the objects lie as they lay. -/
theorem evL_ok (hT : TOk P T) {φ : Fi} {st : St} {w : World} {ρa : Operand → AV} {ρ : Operand → Value} {o : Oper} {r : AV} (hr : Rel φ st w) (hρ : OpR φ ρa ρ) (h : evL T st.h ρa o = some r) :
    ∃ u, VR φ r u ∧ ∀ w', Same φ st.h w w' → (execOp ρ o).run P w' = .ok (.value u) w' := by
  unfold evL at h
  split at h
  · -- move
    rename_i x hx
    cases h
    exact ⟨ρ x, hρ x, fun w' _ => by simp [execOp, hx]⟩
  · rename_i x hx
    cases h
    exact ⟨ρ x, hρ x, fun w' _ => by simp [execOp, hx]⟩
  · -- pick
    rename_i c a b hx
    split at h
    · rename_i t hc
      cases h
      have h1 := hρ c
      rw [hc] at h1
      have h2 : ρ c = .bool t := h1.lit_inv
      exact ⟨if t then ρ a else ρ b, by cases t; exact hρ b; exact hρ a, fun w' _ => by simp [execOp, hx, h2, asBool]⟩
    · cases h
  · -- load
    rename_i t a hx
    obtain ⟨u, h1, h2⟩ := load_ok (P := P) hT hr (hρ a) h
    exact ⟨u, h1, fun w' hw => by simp [execOp, hx, h2 w' hw, Result.andThen]⟩
  · -- fieldAddr
    rename_i s x f hx
    split at h
    · rename_i id base n sz i k ti hp hs
      split at h
      · rename_i fs hd
        split at h
        · rename_i fd hf
          split at h
          · rename_i j hj
            split at h
            · cases h
            · rename_i hz
              cases h
              have h1 := hρ x
              rw [hp] at h1
              have h2 := ptrOf_ok (id := id) (off := base + i * sz + k) rfl h1
              have h3 := h2.ptr_inv
              refine ⟨_, .ap id base n sz i (k + fd.offset) h3.2, fun w' _ => ?_⟩
              have ha : (Addr.add ⟨(φ.f id).b, (φ.f id).o + (base + i * sz + k), none⟩ fd.offset) = ⟨(φ.f id).b, (φ.f id).o + (base + i * sz + (k + fd.offset)), none⟩ := by
                unfold Addr.add; split
                · rename_i h0; simp [h0]
                · simp [Nat.add_assoc]
              simp [execOp, hx, Instr.fieldAt, Sem.run_bind, run_und hT hs, hd, Result.andThen, hf, h3.1, Instr.sureAddr, fieldPlace, run_size hT hj, hz, ha]
          · cases h
        · cases h
      · cases h
    · rename_i sz k e i hp hs
      split at h
      · rename_i fs hd
        split at h
        · rename_i fd hf
          split at h
          · rename_i j hj
            split at h
            · cases h
            · rename_i hz
              cases h
              have h1 := hρ x
              rw [hp] at h1
              obtain ⟨b, o, c, us, h3, hzz, hc, hus⟩ := h1.ip_inv
              refine ⟨_, .ip sz (k + fd.offset) e b o c us hzz hc hus, fun w' _ => ?_⟩
              have ha : (Addr.add ⟨b, o + k, none⟩ fd.offset) = ⟨b, o + (k + fd.offset), none⟩ := by
                unfold Addr.add; split
                · rename_i h0; simp [h0]
                · simp [Nat.add_assoc]
              simp [execOp, hx, Instr.fieldAt, Sem.run_bind, run_und hT hs, hd, Result.andThen, hf, h3, Instr.sureAddr, fieldPlace, run_size hT hj, hz, ha]
          · cases h
        · cases h
      · cases h
    · rename_i id off i hp hs
      split at h
      · rename_i fs hd
        split at h
        · rename_i fd hf
          split at h
          · rename_i j hj
            split at h
            · cases h
            · rename_i hz
              cases h
              have h1 := hρ x
              rw [hp] at h1
              have h3 := h1.ptr_inv
              refine ⟨_, .ptr id (off + fd.offset) h3.2, fun w' _ => ?_⟩
              have ha : (Addr.add ⟨(φ.f id).b, (φ.f id).o + off, none⟩ fd.offset) = ⟨(φ.f id).b, (φ.f id).o + (off + fd.offset), none⟩ := by
                unfold Addr.add; split
                · rename_i h0; simp [h0]
                · simp [Nat.add_assoc]
              simp [execOp, hx, Instr.fieldAt, Sem.run_bind, run_und hT hs, hd, Result.andThen, hf, h3.1, Instr.sureAddr, fieldPlace, run_size hT hj, hz, ha]
          · cases h
        · cases h
      · cases h
    · cases h
  · -- field
    rename_i s x f hx
    split at h
    · rename_i cs i hp hs
      split at h
      · rename_i fs hd
        split at h
        · rename_i fd hf
          have h1 := hρ x
          rw [hp] at h1
          obtain ⟨us, h3, h4⟩ := h1.agg_inv
          obtain ⟨u, h5, h6⟩ := part_ok (P := P) hT h4 h
          refine ⟨u, h5, fun w' _ => ?_⟩
          simp [execOp, hx, Instr.field, Sem.run_bind, run_und hT hs, hd, Result.andThen, hf, h3, asAgg, h6]
        · cases h
      · cases h
    · cases h
  · -- indexAddr
    rename_i t x ix hx
    split at h
    · rename_i k n i hp hs
      have hn : ρ ix = .int k n := by have := hρ ix; rw [hp] at this; exact this.lit_inv
      split at h
      · rename_i len e id off hd hq
        split at h
        · rename_i j hj
          split at h
          · rename_i hb
            cases h
            have h1 := hρ x
            rw [hq] at h1
            have h3 := h1.ptr_inv
            refine ⟨_, .ap id off len j.size n.toNat 0 h3.2, fun w' _ => ?_⟩
            have ha : (Addr.add ⟨(φ.f id).b, (φ.f id).o + off, none⟩ (n.toNat * j.size)) = ⟨(φ.f id).b, (φ.f id).o + (off + n.toNat * j.size), none⟩ := by
              unfold Addr.add; split
              · rename_i h0; simp [h0]
              · simp [Nat.add_assoc]
            simp [execOp, hx, Instr.indexAt, Sem.run_bind, run_und hT hs, hd, Result.andThen, hn, asIntOf, h3.1, Instr.sureAddr, run_size hT hj, hb, ha]
          · cases h
        · cases h
      · rename_i e id off len sz ex hd hq
        split at h
        · rename_i j hj
          split at h
          · rename_i hb
            cases h
            have h1 := hρ x
            rw [hq] at h1
            obtain ⟨cap, h3, h4, _⟩ := h1.sl_inv
            refine ⟨_, .ptr id (off + n.toNat * sz) h4, fun w' _ => ?_⟩
            have ha : (Addr.add ⟨(φ.f id).b, (φ.f id).o + off, none⟩ (n.toNat * sz)) = ⟨(φ.f id).b, (φ.f id).o + (off + n.toNat * sz), none⟩ := by
              unfold Addr.add; split
              · rename_i h0; simp [h0]
              · simp [Nat.add_assoc]
            obtain ⟨b1, b2, b3⟩ := hb
            simp [execOp, hx, Instr.indexAt, Sem.run_bind, run_und hT hs, hd, Result.andThen, hn, asIntOf, h3, run_size hT hj, b1, b2, b3, ha]
          · cases h
        · cases h
      · rename_i e len sz ex g hd hq
        split at h
        · rename_i j hj
          split at h
          · rename_i hb
            cases h
            obtain ⟨b1, b2, b3⟩ := hb
            have h1 := hρ x
            rw [hq] at h1
            rcases h1.isl_inv with ⟨rfl, _⟩ | ⟨b, o, cap, c, us, h3, hzz, hc, hus, _⟩
            · omega
            have hnl : n.toNat < len := by omega
            have hv := VR.ip sz 0 (g n.toNat) b (o + n.toNat * sz) c (us n.toNat) hzz (fun k hk => hc _ _ hnl hk) (fun k hk => hus _ _ hnl hk)
            refine ⟨_, hv, fun w' _ => ?_⟩
            have ha : (Addr.add ⟨b, o, none⟩ (n.toNat * sz)) = ⟨b, o + n.toNat * sz, none⟩ := by
              unfold Addr.add; split
              · rename_i h0; simp [h0]
              · rfl
            simp [execOp, hx, Instr.indexAt, Sem.run_bind, run_und hT hs, hd, Result.andThen, hn, asIntOf, h3, run_size hT hj, b1, b2, b3, ha]
          · cases h
        · cases h
      · cases h
    · cases h
  · -- index
    rename_i t x ix hx
    split at h
    · rename_i k n i cs hp hs hq
      have hn : ρ ix = .int k n := by have := hρ ix; rw [hp] at this; exact this.lit_inv
      split at h
      · rename_i len e hd
        split at h
        · rename_i j hj
          split at h
          · rename_i hb
            have h1 := hρ x
            rw [hq] at h1
            obtain ⟨us, h3, h4⟩ := h1.agg_inv
            obtain ⟨u, h5, h6⟩ := part_ok (P := P) hT h4 h
            refine ⟨u, h5, fun w' _ => ?_⟩
            simp [execOp, hx, Instr.index, Sem.run_bind, run_und hT hs, hd, Result.andThen, hn, asIntOf, h3, run_size hT hj, hb, h6]
          · cases h
        · cases h
      · cases h
    · cases h
  · -- binOp
    rename_i op t x y yt hx
    obtain ⟨u, h1, h2⟩ := bin_ok (P := P) t x y (hρ x) (hρ y) h
    refine ⟨u, h1, fun w' _ => ?_⟩
    simp only [execOp, hx]
    show Sem.run P (do let z ← (do eqGuard op t x y (ρ x) (ρ y); binOp op t (ρ x) (ρ y)); pure (Next.value z)) w' = _
    rw [Sem.run_bind, h2 w']
    rfl
  · -- unOp
    rename_i op t x hx
    split at h
    · rename_i b hq
      cases h
      have h2 : ρ x = .bool b := by have := hρ x; rw [hq] at this; exact this.lit_inv
      exact ⟨.bool !b, .lit _, fun w' _ => by simp [execOp, hx, h2, Op.unary]⟩
    · rename_i b hq
      cases h
      have h2 : ρ x = .bool b := by have := hρ x; rw [hq] at this; exact this.sb_inv
      exact ⟨.bool !b, .sb _, fun w' _ => by simp [execOp, hx, h2, Op.unary]⟩
    · rename_i k n hq
      cases h
      have h2 : ρ x = .int k n := by have := hρ x; rw [hq] at this; exact this.lit_inv
      exact ⟨_, .lit _, fun w' _ => by simp [execOp, hx, h2, Op.unary, Op.intArith, wrp_eq]⟩
    · cases h
  · -- convert
    rename_i s d x hx
    split at h
    · rename_i i j k n hs hd hq
      split at h
      · rename_i k' hk
        cases h
        have h2 : ρ x = .int k n := by have := hρ x; rw [hq] at this; exact this.lit_inv
        refine ⟨_, .lit _, fun w' _ => ?_⟩
        simp [execOp, hx, h2, convert, Sem.run_bind, run_und hT hs, run_und hT hd, Result.andThen, hk, Conv.intToInt, wrp_eq]
      · cases h
    · cases h
  · -- extract
    rename_i x i hx
    split at h
    · rename_i vs hq
      have h1 := hρ x
      rw [hq] at h1
      obtain ⟨us, h3, h4⟩ := h1.tup_inv
      obtain ⟨u, h5, h6⟩ := h4.get i r h
      exact ⟨u, h6, fun w' _ => by simp [execOp, hx, h3, Instr.extract, h5]⟩
    · cases h
  · -- makeFunc
    rename_i f a b hx
    cases h
    have hl : ∀ l : List Operand, VRL φ (l.map ρa) (l.map ρ) := fun l => by
      induction l with
      | nil => exact .nil
      | cons x l ih => exact .cons (hρ x) ih
    refine ⟨_, .fn f (hl a.toList) (hl b.toList), fun w' _ => ?_⟩
    simp only [execOp, hx, Instr.makeFunc, Sem.run_bind, Sem.run_pure, Result.andThen]
    congr 3 <;> (rw [← Array.toList_map])
  · -- call
    rename_i c hx
    split at h
    · -- len
      rename_i hc
      split at h
      · rename_i x t hca hct
        have ha : c.args = #[x] := by cases hq : c.args; simp_all
        have ht : c.argTypes = #[t] := by cases hq : c.argTypes; simp_all
        split at h
        · rename_i i id off n sz ex hi hq
          split at h
          · rename_i e hd
            cases h
            have h1 := hρ x
            rw [hq] at h1
            obtain ⟨cap, h3, _⟩ := h1.sl_inv
            exact ⟨_, .lit _, fun w' _ => by simp [execOp, hx, resolve, hc, ha, ht, invoke, builtin, Builtin.len_, h3, run_und hT hi, hd, Result.andThen, goInt]⟩
          · cases h
        · rename_i i a n cap hi hq
          split at h
          · rename_i e hd
            cases h
            have h3 : ρ x = .slice a n cap := by have := hρ x; rw [hq] at this; exact this.lit_inv
            exact ⟨_, .lit _, fun w' _ => by simp [execOp, hx, resolve, hc, ha, ht, invoke, builtin, Builtin.len_, h3, run_und hT hi, hd, Result.andThen, goInt]⟩
          · cases h
        · rename_i i n sz ex g hi hq
          split at h
          · rename_i e hd
            cases h
            have h3 : ∃ a cap, ρ x = .slice a n cap := by
              have h1 := hρ x
              rw [hq] at h1
              rcases h1.isl_inv with ⟨rfl, h2⟩ | ⟨b, o, cap, c, us, h2, _⟩
              · exact ⟨_, _, h2⟩
              · exact ⟨_, _, h2⟩
            obtain ⟨a, cap, h3⟩ := h3
            exact ⟨_, .lit _, fun w' _ => by simp [execOp, hx, resolve, hc, ha, ht, invoke, builtin, Builtin.len_, h3, run_und hT hi, hd, Result.andThen, goInt]⟩
          · cases h
        · rename_i i _ hi _ _ _
          split at h
          · rename_i n e hd
            cases h
            exact ⟨_, .lit _, fun w' _ => by simp [execOp, hx, resolve, hc, ha, ht, invoke, builtin, Builtin.len_, run_und hT hi, hd, Result.andThen, goInt]⟩
          · cases h
        · cases h
      · cases h
    · -- min
      rename_i hc
      split at h
      · rename_i x y hca
        have ha : c.args = #[x, y] := by cases hq : c.args; simp_all
        split at h
        · rename_i k m k' n hp hq
          cases h
          have h2 : ρ x = .int k m := by have := hρ x; rw [hp] at this; exact this.lit_inv
          have h3 : ρ y = .int k' n := by have := hρ y; rw [hq] at this; exact this.lit_inv
          exact ⟨_, .lit _, fun w' _ => by simp [execOp, hx, resolve, hc, ha, invoke, builtin, Builtin.min_, Builtin.min2, h2, h3]⟩
        · cases h
      · cases h
    · rename_i hc
      split at h
      · rename_i x y hca
        have ha : c.args = #[x, y] := by cases hq : c.args; simp_all
        split at h
        · rename_i k m k' n hp hq
          cases h
          have h2 : ρ x = .int k m := by have := hρ x; rw [hp] at this; exact this.lit_inv
          have h3 : ρ y = .int k' n := by have := hρ y; rw [hq] at this; exact this.lit_inv
          exact ⟨_, .lit _, fun w' _ => by simp [execOp, hx, resolve, hc, ha, invoke, builtin, Builtin.max_, Builtin.max2, h2, h3]⟩
        · cases h
      · cases h
    · cases h
  · cases h

end
end Go.Fz

/-
  OPERATIONS THAT MAKE MEMORY, and those that write it. Own work of the verifier of watercress.
-/
namespace Go.Fz

def setsL {α : Type} : List α → Nat → List α → List α
  | cs, _, [] => cs
  | cs, off, x :: xs => setsL (cs.set off x) (off + 1) xs
theorem setsL_length {α : Type} : ∀ (xs cs : List α) (off : Nat), (setsL cs off xs).length = cs.length
  | [], _, _ => rfl
  | x :: xs, cs, off => by simp [setsL, setsL_length xs]
theorem VRL.sets {φ : Fi} : ∀ {xs : List AV} {vs : List Value} {cs : List AV} {us : List Value} (off : Nat), VRL φ xs vs → VRL φ cs us → VRL φ (setsL cs off xs) (setsL us off vs)
  | [], _, _, _, _, h, k => by cases h; exact k
  | _ :: _, _, _, _, off, h, k => by
    cases h with | cons h t => exact VRL.sets (off + 1) t (k.set off h)

def fillA (place : Nat → Option (Nat × Nat)) (cells : List AV) : List (Nat × AV) → Option (List AV)
  | [] => some cells
  | (i, v) :: rest =>
    match place i with
    | none => none
    | some (off, size) =>
      if v.cells.length = 0 ∨ v.cells.length ≠ size ∨ off + v.cells.length > cells.length then none
      else fillA place (setsL cells off v.cells) rest

theorem fold_sets (off : Nat) : ∀ (xs us : List Value) (k : Nat), ((xs.zipIdx k).foldl (fun (cs : Array Value) (p : Value × Nat) => cs.setIfInBounds (off + p.2) p.1) us.toArray) = (setsL us (off + k) xs).toArray
  | [], us, k => by simp [setsL]
  | x :: xs, us, k => by
    simp only [List.zipIdx_cons, List.foldl_cons, setsL]
    rw [List.setIfInBounds_toArray]
    exact fold_sets off xs (us.set (off + k) x) (k + 1)

theorem fill_ok {φ : Fi} {place : Nat → Option (Nat × Nat)} {ρa : Operand → AV} {ρ : Operand → Value} (hρ : OpR φ ρa ρ) : ∀ (parts : List (Nat × Operand)) {cells : List AV} {us : List Value} {r : List AV}, VRL φ cells us →
    fillA place cells (parts.map fun p => (p.1, ρa p.2)) = some r → ∃ rs : List Value, Instr.fill place us.toArray (parts.map fun p => (p.1, ρ p.2)) = some rs.toArray ∧ VRL φ r rs
  | [], _, us, _, hc, h => by simp only [List.map_nil, fillA, Option.some.injEq] at h; subst h; exact ⟨us, rfl, hc⟩
  | (i, x) :: rest, cells, us, r, hc, h => by
    simp only [List.map_cons, fillA] at h
    split at h
    · cases h
    · rename_i off size hp
      split at h
      · cases h
      · rename_i hn
        have hn0 : 0 < (ρa x).cells.length := by omega
        have hv := (hρ x).cells hn0
        have hl := hv.length
        have hl2 := hc.length
        have h1 : (ρ x).cells.size = (ρa x).cells.length := by rw [hl]; simp
        obtain ⟨rs, h2, h3⟩ := fill_ok hρ rest (hv.sets off hc) h
        refine ⟨rs, ?_, h3⟩
        simp only [List.map_cons, Instr.fill, hp]
        have hcond : ((ρ x).cells.size ≠ size || off + (ρ x).cells.size > us.toArray.size) = false := by
          rw [not_or, not_or] at hn
          replace hn := hn.2
          rw [h1]
          simp only [List.size_toArray, ne_eq, Bool.or_eq_false_iff, decide_eq_false_iff_not]
          exact ⟨hn.1, by have := hn.2; omega⟩
        simp only [ne_eq, Bool.or_eq_true, decide_eq_true_eq] at hcond ⊢
        rw [if_neg (by simpa using hcond)]
        rw [← h2]
        congr 1
        rw [← Array.foldl_toList, Array.toList_zipIdx]
        exact fold_sets off _ us 0

/-- The cells of n zero values. -/
def zerosA (i : TI) (n : Nat) : List AV := (List.range n).map fun k => .lit (i.zero[k % i.zero.length]!)

/-- Operations that lay a new object: the value (the object's number is n), and its cells. -/
def evF (T : Ti) (n : Nat) (ρ : Operand → AV) (o : Oper) : Option (AV × List AV) :=
  match o.op with
  | .alloc e => match T e with
    | some i => some (.ptr n 0, (i.zero.map .lit).map AV.norm)
    | none => none
  | .box _ x => if (ρ x).cells.length = 0 then none else some (.ptr n 0, (ρ x).cells.map AV.norm)
  | .buildSlice t len parts => match T t with
    | some i => match i.desc with
      | .slice e => match T e with
        | some j =>
          if j.size = 0 ∨ len * j.size > 16777216 ∨ j.zero.length ≠ j.size then none else
          match fillA (fun k => some (k * j.size, j.size)) (zerosA j (len * j.size)) (parts.toList.map fun p => (p.1, ρ p.2)) with
          | some cs => some (.sl n 0 len j.size true, cs)
          | none => none
        | none => none
      | _ => none
    | none => none
  | .makeSlice t l c => match T t, ρ l, ρ c with
    | some i, .lit (.int .i64 a), .lit (.int .i64 b) => match i.desc with
      | .slice e => match T e with
        | some j => if 0 ≤ a ∧ a ≤ b ∧ b ≤ 65536 ∧ j.bytes ≤ 65536 ∧ j.size ≠ 0 ∧ j.zero.length = j.size then some (.sl n 0 a.toNat j.size (a == b), zerosA j (b.toNat * j.size)) else none
        | none => none
      | _ => none
    | _, _, _ => none
  | _ => none

section
variable {P : Program} {T : Ti}

theorem zeros_ok (φ : Fi) {j : TI} {z : Value} (hz : z.cells.toList = j.zero) (n : Nat) : VRL φ (zerosA j n) ((List.range n).map fun k => z.cells[k % z.cells.size]!) := by
  unfold zerosA
  have hs : z.cells.size = j.zero.length := by rw [← hz]; simp
  refine VRL.of_get (by simp) fun i a u ha hu => ?_
  simp only [List.getElem?_map] at ha hu
  cases hr : (List.range n)[i]? with
  | none => simp [hr] at ha
  | some k =>
    simp only [hr, Option.map_some, Option.some.injEq] at ha hu
    subst ha; subst hu
    have : z.cells[k % z.cells.size]! = j.zero[k % j.zero.length]! := by
      rw [hs, ← hz]
      simp [getElem!_def]
    rw [this]; exact .lit _

theorem range_map {α : Type} (f : Nat → α) (n : Nat) : Array.map f (Array.range n) = ((List.range n).map f).toArray := by
  apply Array.ext'
  simp
theorem run_newRow (e : TypeId) (c : Array Value) (w : World) : (newRow e c).run P w = .ok ⟨w.heap.size, 0, none⟩ (w.alloc (.cells c e)) := rfl

theorem evF_ok (hT : TOk P T) {φ : Fi} {ρa : Operand → AV} {ρ : Operand → Value} {o : Oper} {a : AV} {cs : List AV} (hρ : OpR φ ρa ρ) (h : evF T φ.n ρa o = some (a, cs)) :
    ∃ (c : Array Value) (t : TypeId), VRL φ cs c.toList ∧ ∀ w : World, ∃ u, (execOp ρ o).run P w = .ok (.value u) (w.alloc (.cells c t)) ∧ VR (φ.push ⟨w.heap.size, 0, c.size⟩) a u := by
  have hptr : ∀ (w : World) (c : Array Value), VR (φ.push ⟨w.heap.size, 0, c.size⟩) (.ptr φ.n 0) (.pointer (some ⟨w.heap.size, 0, none⟩)) := fun w c => by
    have := VR.ptr (φ := φ.push ⟨w.heap.size, 0, c.size⟩) φ.n 0 (by simp [Fi.push])
    rwa [Fi.push_new] at this
  have hsl : ∀ (w : World) (c : Array Value) (len cap sz : Nat) (ex : Bool), len ≤ cap → (ex = true → cap = len) → cap * sz ≤ c.size → VR (φ.push ⟨w.heap.size, 0, c.size⟩) (.sl φ.n 0 len sz ex) (.slice (some ⟨w.heap.size, 0, none⟩) len cap) := fun w c len cap sz ex h1 h2 h3 => by
    have := VR.sl (φ := φ.push ⟨w.heap.size, 0, c.size⟩) φ.n 0 len sz ex cap (by simp [Fi.push]) h1 h2 (by rw [Fi.push_new]; simpa using h3)
    rwa [Fi.push_new] at this
  unfold evF at h
  split at h
  · rename_i e hx
    split at h
    · rename_i i hi
      cases h
      obtain ⟨z, hz, hz2⟩ := run_zero (P := P) hT hi default
      have hzw : ∀ w : World, (zeroValue e).run P w = .ok z w := fun w => by
        obtain ⟨z', h1, _⟩ := run_zero (P := P) hT hi w
        have h2 := (hT e i hi).info
        obtain ⟨ti, z2, h3, _, _, h4, _⟩ := h2
        have h5 : ∀ w : World, (zeroValue e).run P w = .ok z2 w := fun w => by simp [zeroValue, typeInfo, Sem.run_bind, program, Sem.run, Result.andThen, h3, h4]
        rw [h5 default] at hz
        injection hz with hz _
        rw [h5 w, hz]
      refine ⟨z.cells, e, by rw [hz2]; exact (VRL.lits _).norm, fun w => ⟨_, ?_, hptr w _⟩⟩
      simp only [execOp, hx, Instr.alloc, Sem.run_bind, hzw, Result.andThen, newVar, run_newRow, Sem.run_pure]
    · cases h
  · rename_i e x hx
    split at h
    · cases h
    rename_i hne
    cases h
    refine ⟨(ρ x).cells, e, ((hρ x).cells (by omega)).norm, fun w => ⟨_, ?_, hptr w _⟩⟩
    simp only [execOp, hx, Instr.box, Sem.run_bind, Result.andThen, newVar, run_newRow, Sem.run_pure]
  · rename_i t len parts hx
    split at h
    · rename_i i hi
      split at h
      · rename_i e hd
        split at h
        · rename_i j hj
          split at h
          · cases h
          · rename_i hn
            rw [not_or, not_or] at hn
            split at h
            · rename_i cs' hf
              cases h
              obtain ⟨z, hz, hz2⟩ : ∃ z, (∀ w : World, (zeroValue e).run P w = .ok z w) ∧ z.cells.toList = j.zero := by
                obtain ⟨ti, z2, h3, _, _, h4, h5⟩ := (hT e j hj).info
                exact ⟨z2, fun w => by simp [zeroValue, typeInfo, Sem.run_bind, program, Sem.run, Result.andThen, h3, h4], h5⟩
              obtain ⟨rs, h1, h2⟩ := fill_ok hρ parts.toList (zeros_ok φ hz2 (len * j.size)) hf
              have hlen : rs.length = len * j.size := by
                rw [← h2.length]
                have : ∀ (l : List (Nat × AV)) (c r : List AV), fillA (fun k => some (k * j.size, j.size)) c l = some r → r.length = c.length := fun l => by
                  induction l with
                  | nil => intro c r h; simp only [fillA, Option.some.injEq] at h; rw [h]
                  | cons p l ih =>
                    intro c r h
                    obtain ⟨q, v⟩ := p
                    simp only [fillA] at h
                    split at h
                    · cases h
                    · rw [ih _ _ h, setsL_length]
                rw [this _ _ _ hf]
                simp [zerosA]
              refine ⟨rs.toArray, e, by simpa using h2, fun w => ⟨_, ?_, hsl w _ len len j.size true (Nat.le_refl _) (fun _ => rfl) (by simp [hlen])⟩⟩
              have h0 : ¬ (len * j.size > 2 ^ 24) := by have := hn.2.1; simpa using this
              have hpm : (Array.map (fun x => (x.fst, ρ x.snd)) parts).toList = parts.toList.map fun p => (p.1, ρ p.2) := by simp
              simp only [execOp, hx, Instr.buildSlice, Sem.run_bind, run_und hT hi, hd, Result.andThen, run_size hT hj, h0, if_false, Sem.run_pure]
              by_cases hz0 : len * j.size = 0
              · simp only [hz0] at h1
                simp only [List.range_zero, List.map_nil] at h1
                simp only [hz0, if_true, hpm, range_map, List.range_zero, List.map_nil, Sem.run_pure, h1, Sem.run_bind, run_newRow, Result.andThen]
              · simp only [hz0, if_false, Sem.run_bind, hz, Result.andThen, Sem.run_pure]
                simp only [hpm, range_map, h1, Sem.run_bind, run_newRow, Result.andThen, Sem.run_pure]
            · cases h
        · cases h
      · cases h
    · cases h
  · rename_i t l c hx
    split at h
    · rename_i i x y hi hl hc
      split at h
      · rename_i e hd
        split at h
        · rename_i j hj
          split at h
          · rename_i hb
            cases h
            obtain ⟨b1, b2, b3, b4, b5, b6⟩ := hb
            obtain ⟨m, rfl⟩ := Int.eq_ofNat_of_zero_le b1
            obtain ⟨k, rfl⟩ := Int.eq_ofNat_of_zero_le (Int.le_trans b1 b2)
            have hlv : ρ l = .int .i64 m := by have := hρ l; rw [hl] at this; exact this.lit_inv
            have hcv : ρ c = .int .i64 k := by have := hρ c; rw [hc] at this; exact this.lit_inv
            obtain ⟨ti, z, h3, h6, h7, h4, h5⟩ := (hT e j hj).info
            have hzw : ∀ w : World, (zeroValue e).run P w = .ok z w := fun w => by simp [zeroValue, typeInfo, Sem.run_bind, program, Sem.run, Result.andThen, h3, h4]
            have hiw : ∀ w : World, (typeInfo e).run P w = .ok ti w := fun w => by simp [typeInfo, Sem.run_bind, program, Sem.run, Result.andThen, h3]
            refine ⟨((List.range (k * j.size)).map fun q => z.cells[q % z.cells.size]!).toArray, e, by simpa using zeros_ok φ h5 (k * j.size), fun w => ⟨.slice (some ⟨w.heap.size, 0, none⟩) m k, ?_, ?_⟩⟩
            · have w1 : IntKind.i64.wrap (m : Int) = m := wrap_in _ _ ⟨by simp only [IntKind.lo]; omega, by simp only [IntKind.hi]; omega⟩
              have w2 : IntKind.i64.wrap (k : Int) = k := wrap_in _ _ ⟨by simp only [IntKind.lo]; omega, by simp only [IntKind.hi]; omega⟩
              have hkb : k * ti.bytes ≤ 65536 * 65536 := Nat.mul_le_mul (by omega) (by omega)
              have hbk : (ti.bytes : Int) * (k : Int) ≤ 65536 * 65536 := by
                have : ((ti.bytes * k : Nat) : Int) ≤ ((65536 * 65536 : Nat) : Int) := by rw [Nat.mul_comm]; exact Int.ofNat_le.2 hkb
                simpa using this
              have hc1 : ((decide ((k : Int) < 0) || decide ((ti.bytes : Int) * (k : Int) > 2 ^ 48)) || decide ((m : Int) < 0) || decide ((m : Int) > (k : Int))) = false := by
                simp only [Bool.or_eq_false_iff, decide_eq_false_iff_not]
                refine ⟨⟨⟨by omega, by omega⟩, by omega⟩, by omega⟩
              have hroom : (askRoom (k * ti.bytes)).run P w = .ok () w := by
                unfold askRoom roomBytes
                rw [if_neg (by omega)]; rfl
              simp only [execOp, hx, Instr.makeSlice, Sem.run_bind, run_und hT hi, hd, Result.andThen, hlv, hcv, asInt, asIntOf, Sem.run_pure, hiw, w1, w2, hc1, Bool.false_eq_true, if_false, Int.toNat_natCast, hroom, run_size hT hj]
              by_cases h0 : k * j.size = 0
              · simp only [h0, if_true, range_map, List.range_zero, List.map_nil, Sem.run_bind, Sem.run_pure, Result.andThen, run_newRow]
              · simp only [h0, if_false, Sem.run_bind, hzw, Result.andThen, Sem.run_pure, range_map, run_newRow]
            · have := hsl w (((List.range (k * j.size)).map fun q => z.cells[q % z.cells.size]!).toArray) m k j.size ((m : Int) == k) (by omega) (fun he => by simp at he; omega) (by simp)
              simpa using this
          · cases h
        · cases h
      · cases h
    · cases h
  · cases h

/-! ### What writes -/

/-- A store through a pointer. -/
def storeA (T : Ti) (st : St) (t : TypeId) (p v : AV) : Option St :=
  match ptrOf p, T t with
  | some (id, off), some i =>
    match st.h.get id with
    | some (.cells none false cs) =>
      if v.cells.length = i.size ∧ off + i.size ≤ cs.length ∧ v.cells.all AV.one ∧ 0 < v.cells.length then some ⟨st.h.set id (.cells none false (setsL cs off (v.cells.map AV.norm))), st.n⟩ else none
    | _ => none
  | _, _ => none

theorem setRow_size (w : World) (g : Nat) (cs : Array Value) : (w.setRow g cs).heap.size = w.heap.size := by simp [World.setRow]

theorem setsL_get {α : Type} : ∀ (xs cs : List α) (off i : Nat), off + xs.length ≤ cs.length → (setsL cs off xs)[i]? = if off ≤ i ∧ i < off + xs.length then xs[i - off]? else cs[i]?
  | [], cs, off, i, _ => by simp only [setsL, List.length_nil]; rw [if_neg (by omega)]
  | x :: xs, cs, off, i, h => by
    simp only [List.length_cons] at h
    rw [setsL, setsL_get xs (cs.set off x) (off + 1) i (by simp; omega)]
    by_cases h1 : off + 1 ≤ i ∧ i < off + 1 + xs.length
    · rw [if_pos h1, if_pos (by simp only [List.length_cons]; omega)]
      rw [show i - off = (i - (off + 1)) + 1 from by omega]
      simp
    · rw [if_neg h1]
      by_cases h2 : i = off
      · subst h2
        rw [if_pos (by simp only [List.length_cons]; omega)]
        simp [show i < cs.length from by omega]
      · rw [if_neg (by simp only [List.length_cons]; omega), List.getElem?_set_ne (Ne.symm h2)]

theorem splice_get (c vs : List Value) (o i : Nat) (h : o + vs.length ≤ c.length) : (c.take o ++ vs ++ c.drop (o + vs.length))[i]? = if o ≤ i ∧ i < o + vs.length then vs[i - o]? else c[i]? := by
  have ho : (c.take o).length = o := by simp; omega
  by_cases h1 : i < o
  · rw [if_neg (by omega), List.append_assoc, List.getElem?_append_left (by omega), List.getElem?_take, if_pos h1]
  · by_cases h2 : i < o + vs.length
    · rw [if_pos ⟨by omega, h2⟩, List.append_assoc, List.getElem?_append_right (by omega), ho, List.getElem?_append_left (by omega)]
    · rw [if_neg (by omega), List.getElem?_append_right (by simp; omega), List.getElem?_drop]
      congr 1
      simp; omega

theorem VRL.one {φ : Fi} {as : List AV} {us : List Value} (h : VRL φ as us) (h1 : as.all AV.one = true) : ∀ u ∈ us, u.oneCell' = true := by
  induction as generalizing us with
  | nil => cases h; simp
  | cons a as ih =>
    cases h with
    | cons h t =>
      simp only [List.all_cons, Bool.and_eq_true] at h1
      intro u hu
      rcases List.mem_cons.1 hu with rfl | hu
      · exact h.one h1.1
      · exact ih t h1.2 u hu

theorem store_ok (hT : TOk P T) {φ : Fi} {st st' : St} {w : World} {t : TypeId} {p v : AV} {pv vv : Value} (hr : Rel φ st w) (hp : VR φ p pv) (hv : VR φ v vv) (h : storeA T st t p v = some st') :
    ∃ w', (Instr.storeAt t pv vv).run P w = .ok () w' ∧ Rel φ st' w' ∧ Fr φ st w φ st' w' ∧ st'.n = st.n := by
  unfold storeA at h
  split at h
  · rename_i id off i hpt hi
    replace hp := ptrOf_ok hpt hp
    split at h
    · rename_i cs ho
      split at h
      · rename_i hc
        cases h
        obtain ⟨c1, c2, c3, c4⟩ := hc
        have hv0 := hv.cells c4
        have c3' := hv0.one c3
        have hv := hv0.norm
        have c1 : (v.cells.map AV.norm).length = i.size := by rw [List.length_map]; exact c1
        generalize v.cells.map AV.norm = vc at *
        obtain ⟨rfl, hid⟩ := hp.ptr_inv
        obtain ⟨hcell, hblk⟩ := hr.obj id _ ho
        obtain ⟨c, ty, hb, hcn, hcl⟩ := hblk rfl
        have hvl := hv.length
        have hsz : vv.cells.size = i.size := by rw [← c1, hvl]; simp
        have hrun := run_storeCells_at P (φ.f id).b ((φ.f id).o + off) ty vv.cells.toList 0 c w hb (by simp [hsz]; omega) c3'
        simp only [Nat.add_zero] at hrun
        refine ⟨w.setRow (φ.f id).b (c.toList.take ((φ.f id).o + off) ++ vv.cells.toList ++ c.toList.drop ((φ.f id).o + off + vv.cells.toList.length)).toArray, ?_, ?_⟩
        · simp only [Instr.storeAt, Instr.sureAddr, Sem.run_bind, Sem.run_pure, Result.andThen, storeVar, run_size hT hi, hsz, ne_eq, not_true_eq_false, if_false]
          exact hrun
        · have := hr.turn (id := id) (o := .cells none false cs) (o' := .cells none false (setsL cs off vc)) (w' := w.setRow (φ.f id).b (c.toList.take ((φ.f id).o + off) ++ vv.cells.toList ++ c.toList.drop ((φ.f id).o + off + vv.cells.toList.length)).toArray) ho rfl rfl rfl rfl rfl rfl (setRow_size _ _ _) (fun k hk => setRow_other w _ k _ hk) ?_
          · exact ⟨this.1, this.2, rfl⟩
          · have hcl' : c.toList.length = (φ.f id).n := by simp [hcn]
            have hvs : vv.cells.toList.length = i.size := by simp [hsz]
            refine ⟨fun k a ha => ?_, fun _ => ⟨_, ty, setRow_heap w _ c _ ty (0, 0) hb, ?_, by rw [setsL_length]; exact hcl⟩⟩
            · have hnew : ∀ j, (w.setRow (φ.f id).b (c.toList.take ((φ.f id).o + off) ++ vv.cells.toList ++ c.toList.drop ((φ.f id).o + off + vv.cells.toList.length)).toArray).cell? ⟨(φ.f id).b, j, none⟩ =
                  if (φ.f id).o + off ≤ j ∧ j < (φ.f id).o + off + vv.cells.toList.length then vv.cells.toList[j - ((φ.f id).o + off)]? else c[j]? := fun j => by
                unfold World.cell?
                simp only [setRow_heap w _ c _ ty (0, 0) hb]
                rw [← Array.getElem?_toList (xs := c), ← splice_get c.toList vv.cells.toList ((φ.f id).o + off) j (by rw [hvs, hcl']; omega)]
                simp
              rw [setsL_get _ _ _ _ (by rw [c1]; exact c2)] at ha
              rw [hnew]
              split at ha
              · rename_i hk
                rw [c1] at hk
                rw [if_pos (by rw [hvs]; omega)]
                obtain ⟨u, hu, hru⟩ := hv.get _ _ ha
                exact ⟨u, by rw [show (φ.f id).o + k - ((φ.f id).o + off) = k - off from by omega]; exact hu, hru⟩
              · rename_i hk
                rw [c1] at hk
                rw [if_neg (by rw [hvs]; omega)]
                obtain ⟨u, hu, hru⟩ := hcell k a ha
                refine ⟨u, ?_, hru⟩
                unfold World.cell? at hu
                simpa [hb] using hu
            · simp only [List.size_toArray, List.length_append, List.length_take, List.length_drop, hcl', hvs]
              omega
      · cases h
    · cases h
  · cases h

end
end Go.Fz

/-
  APPEND, and cuts of slices and arrays. Own work of the verifier of watercress.
-/
namespace Go.Fz

def trunc1 (f X : Nat) (b : Bool) : AObj → AObj
  | .cells fm ro cs => if fm = some f ∨ b = true then .cells (some f) ro (cs.take X) else .cells fm ro cs
  | o => o
/-- Object id is appended to behind its first X cells: whatever may share its memory keeps these alone. -/
def truncH (f X id : Nat) : Hp → Hp
  | [] => []
  | (j, o) :: r => (j, trunc1 f X (j == id) o) :: truncH f X id r
theorem truncH_get (f X id : Nat) (h : Hp) (j : Nat) : (truncH f X id h).get j = (h.get j).map (trunc1 f X (j == id)) := by
  induction h with
  | nil => rfl
  | cons p r ih =>
    obtain ⟨i, o⟩ := p
    by_cases hi : i = j
    · subst hi; simp [truncH, Hp.get]
    · simp [truncH, Hp.get, hi, ih]

theorem trunc1_own (f X : Nat) (b : Bool) (o : AObj) : (trunc1 f X b o).own = o.own := by
  cases o <;> simp only [trunc1] <;> try rfl
  split <;> rfl
theorem trunc1_fam (f X : Nat) (b : Bool) (o : AObj) {g : Nat} (h : o.fam = some g) (hb : b = true → g = f) : (trunc1 f X b o).fam = some g := by
  cases o with
  | cells fm ro cs =>
    simp only [AObj.fam] at h
    subst h
    simp only [trunc1]
    split
    · rename_i hc
      rcases hc with hc | hc
      · cases hc; rfl
      · rw [hb hc]; rfl
    · rfl
  | loop r => cases h
  | dfr => cases h
  | map es clock => cases h
  | iter mid since seen last => cases h

theorem ObjR.take {φ : Fi} {w : World} {id : Nat} {fm fm' : Option Nat} {ro : Bool} {cs : List AV} (X : Nat) (h : ObjR φ w id (.cells fm ro cs)) : ObjR φ w id (.cells fm' ro (cs.take X)) := by
  refine ⟨fun i a ha => h.1 i a ?_, fun hro => ?_⟩
  · rw [List.getElem?_take] at ha
    split at ha
    · exact ha
    · cases ha
  · obtain ⟨c, t, h1, h2, h3⟩ := h.2 hro
    exact ⟨c, t, h1, h2, by simp only [List.length_take]; omega⟩

theorem Rel.trunc {φ : Fi} {st : St} {w : World} (hr : Rel φ st w) {id : Nat} {fm : Option Nat} {cs : List AV} (ho : st.h.get id = some (.cells fm false cs)) (X : Nat) :
    Rel φ ⟨truncH (fm.getD id) X id st.h, st.n⟩ w ∧ Fr φ st w φ ⟨truncH (fm.getD id) X id st.h, st.n⟩ w := by
  have hget : ∀ j x, (truncH (fm.getD id) X id st.h).get j = some x → ∃ o, st.h.get j = some o ∧ x = trunc1 (fm.getD id) X (j == id) o := fun j x hx => by
    rw [truncH_get] at hx
    cases hj : st.h.get j with
    | none => simp [hj] at hx
    | some o => simp only [hj, Option.map_some, Option.some.injEq] at hx; exact ⟨o, rfl, hx.symm⟩
  refine mkRel hr rfl hr.n (fun j x hx => ?_) (fun j x hx => ?_) (fun j x hx => ?_) (fun i j oi oj hi hj hij hio hb => ?_) (fun j x g hx hg => ?_) ⟨rfl, rfl, rfl, Nat.le_refl _, fun _ _ _ => rfl, fun k hk => ?_, fun _ _ h => .inl h⟩
  · obtain ⟨o, h, _⟩ := hget j x hx; exact hr.lt j o h
  · obtain ⟨o, h, _⟩ := hget j x hx; exact hr.blk j o h
  · obtain ⟨o, h, rfl⟩ := hget j x hx
    have h1 := hr.obj j o h
    cases o with
    | cells f2 ro2 cs2 =>
      simp only [trunc1]
      split
      · exact h1.take X
      · exact h1
    | loop r => exact h1
    | dfr => exact h1
    | map es clock => exact h1
    | iter mid since seen last => exact h1
  · obtain ⟨o1, h1, rfl⟩ := hget i oi hi
    obtain ⟨o2, h2, rfl⟩ := hget j oj hj
    rw [trunc1_own] at hio ⊢
    obtain ⟨⟨f, hf1, hf2⟩, h3, h4, h5⟩ := hr.sep i j o1 o2 h1 h2 hij hio hb
    have key : ∀ k o, st.h.get k = some o → o.fam = some f → (k == id) = true → f = fm.getD id := fun k o hk hfk hki => by
      have : k = id := by simpa using hki
      subst this
      rw [ho] at hk; cases hk
      simp only [AObj.fam] at hfk
      rw [hfk]; rfl
    exact ⟨⟨f, trunc1_fam _ _ _ _ hf1 (key i o1 h1 hf1), trunc1_fam _ _ _ _ hf2 (key j o2 h2 hf2)⟩, h3, h4, h5⟩
  · obtain ⟨o, h, rfl⟩ := hget j x hx
    have hdef : fm.getD id < st.n := by
      cases fm with
      | none => exact hr.lt id _ ho
      | some f => exact hr.fam id _ f ho rfl
    cases o with
    | cells f2 ro2 cs2 =>
      simp only [trunc1] at hg
      split at hg
      · simp only [AObj.fam, Option.some.injEq] at hg; subst hg; exact hdef
      · exact hr.fam j _ g h hg
    | loop r => cases hg
    | dfr => cases hg
    | map es clock => cases hg
    | iter mid since seen last => cases hg
  · obtain ⟨j, x, hx, hxo, hb⟩ := hk
    obtain ⟨o, h, rfl⟩ := hget j x hx
    rw [trunc1_own] at hxo
    exact .inl ⟨j, o, h, hxo, hb⟩

/-- A new name for memory that is there. -/
theorem Rel.alias {φ : Fi} {st : St} {w : World} (hr : Rel φ st w) (a : AObj) (l : Loc) {id : Nat} {o : AObj} (ho : st.h.get id = some o) (hown : o.own = true) (hl : (φ.f id).b = l.b) (haown : a.own = true)
    (hobj : ObjR (φ.push l) w φ.n a) (hfm : ∀ f, a.fam = some f → f < st.n) (hsep : ∀ j oj, st.h.get j = some oj → (φ.f j).b = l.b → Mates a oj ∧ oj.own = true ∧ (φ.f j).o = l.o ∧ (φ.f j).n = l.n) :
    Rel (φ.push l) (st.push a) w ∧ Fr φ st w (φ.push l) (st.push a) w := by
  have hold : ∀ id x, st.h.get id = some x → id < φ.n ∧ (φ.push l).f id = φ.f id := fun id x hx => by
    have h1 := hr.lt id x hx
    rw [← hr.n] at h1
    exact ⟨h1, (φ.push_ext l).f id h1⟩
  refine mkRel hr rfl (by simp [Fi.push, St.push, hr.n]) (fun id x hx => ?_) (fun id x hx => ?_) (fun id x hx => ?_) (fun i j oi oj hi hj hij hio hb => ?_) (fun id x f hx hxf => ?_) ⟨rfl, rfl, rfl, Nat.le_refl _, fun _ _ _ => rfl, fun k hk => ?_, fun _ _ h => .inl h⟩
  · rw [St.get_push] at hx
    split at hx
    · show _ < st.n + 1; omega
    · show _ < st.n + 1; have := hr.lt id x hx; omega
  · rw [St.get_push] at hx
    split at hx
    · rename_i h; rw [← hr.n] at h; subst h; rw [Fi.push_new, ← hl]; exact hr.blk _ _ ho
    · rw [(hold id x hx).2]; exact hr.blk id x hx
  · rw [St.get_push] at hx
    split at hx
    · rename_i h; rw [← hr.n] at h; subst h; cases hx; exact hobj
    · exact (hr.obj id x hx).same (φ.push_ext l) (hold id x hx).1 rfl
  · rw [St.get_push] at hi hj
    split at hi
    · rename_i h1
      rw [← hr.n] at h1; subst h1
      cases hi
      split at hj
      · rename_i h2; rw [← hr.n] at h2; exact absurd h2 hij
      · rw [Fi.push_new, (hold j oj hj).2] at hb ⊢
        obtain ⟨h1, h2, h3, h4⟩ := hsep j oj hj hb.symm
        exact ⟨h1, h2, h3.symm, h4.symm⟩
    · split at hj
      · rename_i h2
        rw [← hr.n] at h2; subst h2
        cases hj
        rw [Fi.push_new, (hold i oi hi).2] at hb ⊢
        obtain ⟨⟨f, hf1, hf2⟩, h2, h3, h4⟩ := hsep i oi hi hb
        exact ⟨⟨f, hf2, hf1⟩, haown, h3, h4⟩
      · rw [(hold i oi hi).2, (hold j oj hj).2] at hb ⊢
        exact hr.sep i j oi oj hi hj hij hio hb
  · rw [St.get_push] at hx
    split at hx
    · cases hx; have := hfm f hxf; show _ < st.n + 1; omega
    · have := hr.fam id x f hx hxf; show _ < st.n + 1; omega
  · obtain ⟨j, x, hx, ho', hb⟩ := hk
    rw [St.get_push] at hx
    split at hx
    · rename_i h; rw [← hr.n] at h; subst h; rw [Fi.push_new] at hb; left; exact ⟨id, o, ho, hown, by rw [hl]; exact hb⟩
    · left; exact ⟨j, x, hx, ho', by rw [← (hold j x hx).2]; exact hb⟩

/-- Cells that no object names are written. -/
theorem Rel.beyond {φ : Fi} {st : St} {w : World} (hr : Rel φ st w) {b X : Nat} {c c' : Array Value} {t : TypeId} (hb : w.heap[b]? = some (.cells c t (0, 0))) (hsz : c'.size = c.size)
    (hall : ∀ j oj, st.h.get j = some oj → (φ.f j).b = b → ∃ fm cs, oj = .cells fm false cs ∧ (φ.f j).o + cs.length ≤ X) (hc : ∀ i, i < X → c'[i]? = c[i]?) (hown : Owns φ st b) :
    Rel φ st (w.setRow b c') ∧ Fr φ st w φ st (w.setRow b c') := by
  refine mkRel hr rfl hr.n hr.lt (fun j x hx => by rw [setRow_size]; exact hr.blk j x hx) (fun j x hx => ?_) hr.sep hr.fam ⟨rfl, rfl, rfl, by rw [setRow_size]; exact Nat.le_refl _, fun k _ hn => setRow_other w b k c' (fun e => hn (e ▸ hown)), fun k hk => .inl hk, fun _ _ h => .inl h⟩
  by_cases hj : (φ.f j).b = b
  · obtain ⟨fm, cs, rfl, hlen⟩ := hall j x hx hj
    obtain ⟨h1, h2⟩ := hr.obj j _ hx
    refine ⟨fun i a ha => ?_, fun hro => ?_⟩
    · obtain ⟨v, hv, hrv⟩ := h1 i a ha
      refine ⟨v, ?_, hrv⟩
      have hi : i < cs.length := (List.getElem?_eq_some_iff.1 ha).1
      unfold World.cell? at hv ⊢
      rw [hj] at hv ⊢
      simp only [hb] at hv
      simp only [setRow_heap w b c c' t (0, 0) hb]
      have := hc ((φ.f j).o + i) (by omega)
      simpa [this] using hv
    · obtain ⟨c2, t2, h3, h4, h5⟩ := h2 hro
      rw [hj] at h3
      rw [hb] at h3
      cases h3
      exact ⟨c', t, by rw [hj]; exact setRow_heap w b c c' t (0, 0) hb, by rw [hsz]; exact h4, h5⟩
  · exact (hr.obj j x hx).same (Ext.refl _) (by rw [hr.n]; exact hr.lt j x hx) (setRow_other w b _ c' hj)

/-- The cells of a frozen slice. -/
def flatG (sz : Nat) (g : Nat → Nat → AV) : Nat → List AV
  | 0 => []
  | n + 1 => flatG sz g n ++ cellsFrom (g n) 0 sz
theorem flatG_length (sz : Nat) (g : Nat → Nat → AV) : ∀ n, (flatG sz g n).length = n * sz
  | 0 => by simp [flatG]
  | n + 1 => by simp [flatG, flatG_length sz g n, cellsFrom_length, Nat.add_mul]
theorem flatG_get (sz : Nat) (g : Nat → Nat → AV) : ∀ n i k, i < n → k < sz → (flatG sz g n)[i * sz + k]? = some (g i k)
  | 0, i, k, h, _ => by omega
  | n + 1, i, k, h, hk => by
    simp only [flatG]
    by_cases hi : i = n
    · subst hi
      rw [List.getElem?_append_right (by rw [flatG_length]; omega), flatG_length, show i * sz + k - i * sz = k from by omega, cellsFrom_get, if_pos hk]
      simp
    · have h1 : i < n := by omega
      have h2 : i * sz + k < n * sz := by
        have := Nat.mul_le_mul_right sz (show i + 1 ≤ n from h1)
        rw [Nat.add_mul] at this
        omega
      rw [List.getElem?_append_left (by rw [flatG_length]; exact h2)]
      exact flatG_get sz g n i k h1 hk
/-- The cells that a slice reads. -/
def slCells (h : Hp) (sz : Nat) : AV → Option (List AV)
  | .isl len sz' _ g => if sz' = sz ∧ sz ≠ 0 then some (flatG sz g len) else none
  | .lit (.slice none 0 0) => some []
  | .sl id off len sz' _ => match cellsAt h id with
    | some cs => if sz' = sz ∧ off + len * sz ≤ cs.length then some ((cs.drop off).take (len * sz)) else none
    | none => none
  | _ => none
def slLen : AV → Nat
  | .isl len _ _ _ => len
  | .sl _ _ len _ _ => len
  | _ => 0

theorem slLen_sl (id off len sz : Nat) (ex : Bool) : slLen (.sl id off len sz ex) = len := rfl

def appendA (T : Ti) (st : St) (t xt : TypeId) (s x : AV) : Option (AV × St) :=
  match T t, T xt with
  | some i, some k => match i.desc, k.desc with
    | .slice e, .slice _ => match T e with
      | some j =>
        match slCells st.h j.size s, slCells st.h j.size x with
        | some old, some new =>
          let len := slLen s
          let m := slLen x
          if j.size = 0 ∨ 1048576 < len + m ∨ 65536 < j.bytes ∨ j.bytes = 0 ∨ j.zero.length ≠ j.size ∨ new.all AV.one = false then none else
          if m = 0 then some (s, st) else
          match s with
          | .lit _ => some (.sl st.n 0 m j.size false, st.push (.cells none false new))
          | .isl _ _ true _ => some (.sl st.n 0 (len + m) j.size false, st.push (.cells none false (old ++ new)))
          | .sl _ _ _ _ true => some (.sl st.n 0 (len + m) j.size false, st.push (.cells none false (old ++ new)))
          | .sl id off _ _ false => match st.h.get id with
            | some (.cells fm false _) => if off = 0 then some (.sl st.n 0 (len + m) j.size false, St.push ⟨truncH (fm.getD id) (len * j.size) id st.h, st.n⟩ (.cells (some (fm.getD id)) false (old ++ new))) else none
            | _ => none
          | _ => none
        | _, _ => none
      | none => none
    | _, _ => none
  | _, _ => none

section
variable {P : Program} {T : Ti}

theorem slCells_ok {φ : Fi} {st : St} {w : World} (hr : Rel φ st w) {sz : Nat} {s : AV} {v : Value} {cs : List AV} (hs : VR φ s v) (h : slCells st.h sz s = some cs) :
    ∃ (a : Option Addr) (cap : Nat) (us : List Value), v = .slice a (slLen s) cap ∧ slLen s ≤ cap ∧ VRL φ cs us ∧ us.length = slLen s * sz ∧
      ∀ (n : Nat), n = slLen s → ∀ w', Same φ st.h w w' → (Builtin.firstCells sz n v).run P w' = .ok us.toArray w' := by
  unfold slCells at h
  split at h
  · rename_i len sz' ex g
    split at h
    · rename_i hc
      obtain ⟨rfl, hsz⟩ := hc
      cases h
      have hpos : 0 < sz' := by omega
      rcases hs.isl_inv with ⟨rfl, rfl⟩ | ⟨b, o, cap, c, us, rfl, hz, hcc, hus, hcap, _⟩
      · exact ⟨none, 0, [], rfl, Nat.le_refl _, .nil, by simp [slLen], fun n hn w' _ => by simp only [slLen] at hn; subst hn; rfl⟩
      · have hdm : ∀ j, j < len * sz' → j / sz' < len ∧ j % sz' < sz' ∧ j = j / sz' * sz' + j % sz' := fun j hj => ⟨by rw [Nat.div_lt_iff_lt_mul hpos]; exact hj, Nat.mod_lt _ hpos, by rw [Nat.mul_comm]; exact (Nat.div_add_mod j sz').symm⟩
        refine ⟨_, cap, (List.range (len * sz')).map fun j => us (j / sz') (j % sz'), rfl, hcap, VRL.of_get (by simp [flatG_length]) fun j a u h1 h2 => ?_, by simp [slLen], fun n hn w' hw => ?_⟩
        · have hj : j < len * sz' := by
            rcases Nat.lt_or_ge j (len * sz') with h | h
            · exact h
            · simp [h] at h2
          obtain ⟨d1, d2, d3⟩ := hdm j hj
          have hu : u = us (j / sz') (j % sz') := by simp [hj] at h2; exact h2.symm
          rw [d3, flatG_get _ _ _ _ _ d1 d2] at h1
          cases h1
          rw [hu]
          exact hus _ _ d1 d2
        · simp only [slLen] at hn
          subst hn
          refine run_firstCells_some (P := P) w' sz' n ⟨b, o, none⟩ n cap _ (by simp) fun j v hjv => ?_
          have hj : j < n * sz' := by
            rcases Nat.lt_or_ge j (n * sz') with h | h
            · exact h
            · simp [h] at hjv
          obtain ⟨d1, d2, d3⟩ := hdm j hj
          have hv : v = us (j / sz') (j % sz') := by simp [hj] at hjv; exact hjv.symm
          rw [hv]
          have h5 := (hr.froz b c hz).2.1 _ _ (hcc _ _ d1 d2)
          rw [← cell_of_block (w := w) (w' := w') (a := ⟨b, o + j / sz' * sz' + j % sz', none⟩) (hw.froz b c hz), Nat.add_assoc, ← d3] at h5
          rw [← h5]
          unfold Addr.add; split
          · rename_i h0; simp [h0]
          · rfl
    · cases h
  · cases h
    obtain rfl := hs.lit_inv
    exact ⟨none, 0, [], rfl, Nat.le_refl _, .nil, by simp [slLen], fun n _ w' _ => rfl⟩
  · rename_i id off len sz' ex
    split at h
    · rename_i cs0 hcs
      obtain ⟨f, ro, ho⟩ : ∃ f ro, st.h.get id = some (.cells f ro cs0) := by
        unfold cellsAt at hcs
        split at hcs
        · cases hcs; exact ⟨_, _, by assumption⟩
        · cases hcs
      split at h
      · rename_i hc
        cases h
        obtain ⟨rfl, hlen⟩ := hc
        obtain ⟨cap, rfl, hid, hcap, _, _⟩ := hs.sl_inv
        have hobj := (hr.obj id _ ho).1
        have hex : ∀ j, j < len * sz' → ∃ u, w.cell? ⟨(φ.f id).b, (φ.f id).o + off + j, none⟩ = some u ∧ ∀ a, cs0[off + j]? = some a → VR φ a u := fun j hj => by
          obtain ⟨u, h1, h2⟩ := hobj (off + j) _ (List.getElem?_eq_getElem (by omega))
          exact ⟨u, by rw [Nat.add_assoc]; exact h1, fun a ha => by rw [List.getElem?_eq_getElem (by omega)] at ha; cases ha; exact h2⟩
        let g : Nat → Value := fun j => if hj : j < len * sz' then (hex j hj).choose else undef
        have hg : ∀ j, j < len * sz' → w.cell? ⟨(φ.f id).b, (φ.f id).o + off + j, none⟩ = some (g j) ∧ ∀ a, cs0[off + j]? = some a → VR φ a (g j) := fun j hj => by
          simp only [g, hj, dif_pos]; exact (hex j hj).choose_spec
        refine ⟨_, cap, (List.range (len * sz')).map g, rfl, hcap, VRL.of_get (by simp; omega) fun j a u h1 h2 => ?_, by simp [slLen], fun n hn w' hw => ?_⟩
        · have hj : j < len * sz' := by
            rcases Nat.lt_or_ge j (len * sz') with h | h
            · exact h
            · simp [h] at h2
          have : u = g j := by simp [hj] at h2; exact h2.symm
          subst this
          refine (hg j hj).2 a ?_
          rw [List.getElem?_take] at h1
          simpa [hj] using h1
        · simp only [slLen] at hn
          subst hn
          refine run_firstCells_some (P := P) w' sz' n ⟨(φ.f id).b, (φ.f id).o + off, none⟩ n cap _ (by simp) fun j v hjv => ?_
          have hj : j < n * sz' := by
            rcases Nat.lt_or_ge j (n * sz') with h | h
            · exact h
            · simp [h] at hjv
          have : v = g j := by simp [hj] at hjv; exact hjv.symm
          subst this
          rw [← (hg j hj).1]
          refine Eq.trans ?_ (cell_of_block (w := w) (w' := w') (a := ⟨(φ.f id).b, (φ.f id).o + off + j, none⟩) (hw.obj id _ ho))
          unfold Addr.add; split <;> simp_all
      · cases h
    · cases h
  · cases h

theorem run_askRoom (n : Nat) (w : World) : (askRoom n).run P w = .ok () w := by
  unfold askRoom
  split <;> rfl

theorem notInt {d : TypeDesc} {e : TypeId} (h : d = .slice e) : (match d with | .int _ => true | _ => false) = false := by subst h; rfl

/-- The slice grows into a new block. -/
theorem run_append_grow (hT : TOk P T) {t xt ty e e' : TypeId} {i k j : TI} (hi : T t = some i) (hk : T xt = some k) (hd : i.desc = .slice e) (hd' : k.desc = .slice e') (hj : T e = some j)
    {base bx : Option Addr} {len cap m cx : Nat} {old new : List Value} {w : World}
    (hold : ∀ w' : World, w'.heap = w.heap → (Builtin.firstCells j.size len (.slice base len cap)).run P w' = .ok old.toArray w')
    (hnew : ∀ w' : World, w'.heap = w.heap → (Builtin.firstCells j.size m (.slice bx m cx)).run P w' = .ok new.toArray w')
    (hcap : cap < len + m) (hb1 : len + m ≤ 1048576) (hb2 : j.bytes ≤ 65536) (hb3 : j.bytes ≠ 0) (hz : j.zero.length = j.size) :
    ∃ (newCap : Nat) (rest : List Value), len + m ≤ newCap ∧ rest.length = (newCap - (len + m)) * j.size ∧
      (Builtin.append_ #[t, xt] ty #[.slice base len cap, .slice bx m cx]).run P w =
        .ok (.slice (some ⟨w.heap.size, 0, none⟩) (len + m) newCap) (({ w with drawn := w.drawn + 1 } : World).alloc (.cells (old ++ new ++ rest).toArray e)) := by
  obtain ⟨ti, z, h1, h2, h3, h4, h5⟩ := (hT e j hj).info
  have hzw : ∀ w : World, (zeroValue e).run P w = .ok z w := fun w => by simp [zeroValue, typeInfo, Sem.run_bind, program, Sem.run, Result.andThen, h1, h4]
  have hiw : ∀ w : World, (typeInfo e).run P w = .ok ti w := fun w => by simp [typeInfo, Sem.run_bind, program, Sem.run, Result.andThen, h1]
  let newCap := (Question.appendCap (len + m) cap e).cut (w.tape w.drawn (.appendCap (len + m) cap e))
  have hnc : len + m ≤ newCap := by simp only [newCap, Question.cut]; omega
  refine ⟨newCap, (Builtin.zeroCells z.cells (newCap - (len + m))).toList, hnc, ?_, ?_⟩
  · simp only [Builtin.zeroCells, Array.toList_map, List.length_map, Array.toList_range, List.length_range]
    rw [show z.cells.size = j.size from by rw [← hz, ← h5]; simp]
  · have hbm : (len + m) * ti.bytes ≤ 140737488355328 := by
      rw [h3]
      have : (len + m) * j.bytes ≤ 1048576 * 65536 := Nat.mul_le_mul hb1 hb2
      omega
    have hf := growslice_fits hcap hbm
    have hchoose : (choose (.appendCap (len + m) cap e)).run P w = .ok newCap { w with drawn := w.drawn + 1 } := by
      simp [choose, Sem.run, Question.forced, newCap]
    have hni : ¬ (((len + m : Nat) : Int) > IntKind.i64.max ∧ (False ∨ ti.bytes = 0)) := by
      rintro ⟨_, h | h⟩
      · exact h
      · exact hb3 (by rw [← h3]; exact h)
    have hfm : ¬ (Builtin.nextslicecap (len + m) cap * ti.bytes > 2 ^ 48) := by
      have : (2 : Nat) ^ 48 = 281474976710656 := by decide
      omega
    have hnle : ¬ (len + m ≤ cap) := by omega
    have e0 : (#[t, xt] : Array TypeId)[0]? = some t := rfl
    have e1 : (#[t, xt] : Array TypeId)[1]? = some xt := rfl
    simp only [Builtin.append_, e0, e1, List.getElem?_toArray, List.getElem?_cons_zero, List.getElem?_cons_succ, Sem.run_bind, run_und hT hi, hd, run_und hT hk, hd', Result.andThen, run_size hT hj, Sem.run_pure, Bool.false_eq_true, if_false, Builtin.lenOf, hnle, hiw, Sem.run_ite]
    rw [if_neg hni, if_neg hfm]
    have ho1 := hold { w with drawn := w.drawn + 1 } rfl
    have hn1 := hnew { w with drawn := w.drawn + 1 } rfl
    simp only [hchoose, run_askRoom, ho1, hn1, Bool.not_false, if_true, hzw, run_newRow]
    rw [show (old.toArray ++ new.toArray ++ Builtin.zeroCells z.cells (newCap - (len + m))) = (old ++ new ++ (Builtin.zeroCells z.cells (newCap - (len + m))).toList).toArray from by apply Array.ext'; simp]

/-- The slice has room. -/
theorem run_append_fits (hT : TOk P T) {t xt ty e e' : TypeId} {i k j : TI} (hi : T t = some i) (hk : T xt = some k) (hd : i.desc = .slice e) (hd' : k.desc = .slice e') (hj : T e = some j)
    {a : Addr} {bx : Option Addr} {len cap m cx : Nat} {new : List Value} {w : World} {c : Array Value} {ct : TypeId}
    (hnew : (Builtin.firstCells j.size m (.slice bx m cx)).run P w = .ok new.toArray w) (hspot : a.spot = none)
    (hcap : len + m ≤ cap) (hb : w.heap[a.block]? = some (.cells c ct (0, 0))) (hfit : a.off + len * j.size + new.length ≤ c.size) (h1 : ∀ u ∈ new, u.oneCell' = true) :
    (Builtin.append_ #[t, xt] ty #[.slice (some a) len cap, .slice bx m cx]).run P w =
      .ok (.slice (some a) (len + m) cap) (w.setRow a.block (c.toList.take (a.off + len * j.size) ++ new ++ c.toList.drop (a.off + len * j.size + new.length)).toArray) := by
  obtain ⟨ab, ao, asp⟩ := a
  simp only at hspot hb hfit ⊢
  subst hspot
  have hst := run_storeCells_at P ab (ao + len * j.size) ct new 0 c w hb (by simpa using hfit) h1
  simp only [Nat.add_zero] at hst
  have hadd : Addr.add ⟨ab, ao, none⟩ (len * j.size) = ⟨ab, ao + len * j.size, none⟩ := by unfold Addr.add; split <;> simp_all
  have e0 : (#[t, xt] : Array TypeId)[0]? = some t := rfl
  have e1 : (#[t, xt] : Array TypeId)[1]? = some xt := rfl
  simp only [Builtin.append_, e0, e1, List.getElem?_toArray, List.getElem?_cons_zero, List.getElem?_cons_succ, Sem.run_bind, run_und hT hi, hd, run_und hT hk, hd', Result.andThen, run_size hT hj, Sem.run_pure, Bool.false_eq_true, if_false, Builtin.lenOf, hcap, if_true, Bool.not_false, hnew, hadd, hst]

/-- WHAT AN APPEND LEAVES. -/
theorem append_ok (hT : TOk P T) {φ : Fi} {st st' : St} {w : World} {t xt ty : TypeId} {s x r : AV} {sv xv : Value} (hr : Rel φ st w) (hs : VR φ s sv) (hx : VR φ x xv) (h : appendA T st t xt s x = some (r, st')) :
    ∃ φ' w' v, (Builtin.append_ #[t, xt] ty #[sv, xv]).run P w = .ok v w' ∧ VR φ' r v ∧ Rel φ' st' w' ∧ Ext φ φ' ∧ Fr φ st w φ' st' w' := by
  unfold appendA at h
  split at h
  · rename_i i k hi hk
    split at h
    · rename_i e e' hd hd'
      split at h
      · rename_i j hj
        split at h
        · rename_i old new hold hnew
          obtain ⟨a, cap, us, rfl, hcap, hus, huslen, huf⟩ := slCells_ok (P := P) hr hs hold
          obtain ⟨ax, cx, vs, rfl, hcx, hvs, hvslen, hvf⟩ := slCells_ok (P := P) hr hx hnew
          simp only at h
          split at h
          · cases h
          · rename_i hc
            simp only [not_or, Nat.not_lt, Bool.not_eq_false] at hc
            obtain ⟨c1, c2, c3, c4, c5, c6⟩ := hc
            have c5 : j.zero.length = j.size := by simpa using c5
            have hsame : ∀ w' : World, w'.heap = w.heap → Same φ st.h w w' := fun w' hw => ⟨fun id o _ => by rw [hw], fun b c _ => by rw [hw]⟩
            -- the two ways of growing into a block of its own
            have grow : ∀ (fm : Option Nat) (st1 : St), (∀ f, fm = some f → f < st1.n) → Rel φ st1 w → Fr φ st w φ st1 w → cap < slLen s + slLen x →
                ∃ φ' w' v, (Builtin.append_ #[t, xt] ty #[.slice a (slLen s) cap, .slice ax (slLen x) cx]).run P w = .ok v w' ∧ VR φ' (.sl st1.n 0 (slLen s + slLen x) j.size false) v ∧
                  Rel φ' (st1.push (.cells fm false (old ++ new))) w' ∧ Ext φ φ' ∧ Fr φ st w φ' (st1.push (.cells fm false (old ++ new))) w' := fun fm st1 hfmn hr1 hfr1 hlt => by
              obtain ⟨newCap, rest, g1, g2, g3⟩ := run_append_grow (ty := ty) hT hi hk hd hd' hj (base := a) (bx := ax) (cap := cap) (cx := cx) (fun w' hw => huf _ rfl w' (hsame w' hw)) (fun w' hw => hvf _ rfl w' (hsame w' hw)) hlt c2 c3 c4 c5
              have hr2 : Rel φ st1 { w with drawn := w.drawn + 1 } := hr1.of_heap rfl
              have hobj := ObjR.new (φ := φ) (w := { w with drawn := w.drawn + 1 }) (rest := rest) (hus.append hvs) (us ++ vs ++ rest).toArray (by simp) e
              have hobj' : ObjR (φ.push ⟨w.heap.size, 0, (us ++ vs ++ rest).toArray.size⟩) (({ w with drawn := w.drawn + 1 } : World).alloc (.cells (us ++ vs ++ rest).toArray e)) φ.n (.cells fm false (old ++ new)) := hobj
              have := hr2.push (.cells (us ++ vs ++ rest).toArray e) (.cells fm false (old ++ new)) ⟨w.heap.size, 0, (us ++ vs ++ rest).toArray.size⟩ rfl hobj' (fun f hf => hfmn f hf)
              refine ⟨_, _, _, g3, ?_, this.1, φ.push_ext _, hfr1.trans ((⟨rfl, rfl, rfl, Nat.le_refl _, fun _ _ _ => rfl, fun _ h => .inl h, fun _ _ h => .inl h⟩ : Fr φ st1 w φ st1 { w with drawn := w.drawn + 1 }).trans this.2)⟩
              have hv := VR.sl (φ := φ.push ⟨w.heap.size, 0, (us ++ vs ++ rest).toArray.size⟩) φ.n 0 (slLen s + slLen x) j.size false newCap (by simp [Fi.push]) g1 (by simp) (by
                rw [Fi.push_new]
                simp only [List.size_toArray, List.length_append, huslen, hvslen, g2, Nat.zero_add]
                rw [← Nat.add_mul, ← Nat.add_mul]
                exact Nat.mul_le_mul_right _ (by omega))
              rw [Fi.push_new] at hv
              rw [← hr1.n]
              exact hv
            split at h
            · -- nothing to append
              rename_i hm
              cases h
              refine ⟨φ, w, _, ?_, hs, hr, Ext.refl _, Fr.refl _ _ _⟩
              have e0 : (#[t, xt] : Array TypeId)[0]? = some t := rfl
              have e1 : (#[t, xt] : Array TypeId)[1]? = some xt := rfl
              have hf := hvf _ rfl w (Same.refl _ _ _)
              have hvs0 : vs = [] := List.eq_nil_of_length_eq_zero (by rw [hvslen, hm, Nat.zero_mul])
              subst hvs0
              have hle : slLen s + slLen x ≤ cap := by omega
              have hst : ∀ q : Addr, (storeCells q []).run P w = .ok () w := fun q => rfl
              simp only [Builtin.append_, e0, e1, List.getElem?_toArray, List.getElem?_cons_zero, List.getElem?_cons_succ, Sem.run_bind, run_und hT hi, hd, run_und hT hk, hd', Result.andThen, run_size hT hj, Sem.run_pure, Bool.false_eq_true, if_false, Builtin.lenOf, hle, if_true, Bool.not_false, hf]
              cases a with
              | none => simp [hm]
              | some q => simp [hst, hm]
            · rename_i hm
              split at h
              · -- nil
                rename_i v
                cases h
                have h0 : slLen (.lit v) = 0 := rfl
                have hcap0 : cap = 0 := by
                  unfold slCells at hold
                  split at hold
                  · rename_i hq; cases hq
                  · rename_i hq; have := hs.lit_inv; cases hq; cases this; rfl
                  · rename_i hq; cases hq
                  · cases hold
                have hold0 : old = [] := by
                  have := hus.length; rw [huslen, h0, Nat.zero_mul] at this; exact List.eq_nil_of_length_eq_zero this
                have := grow none st (fun f hf => by cases hf) hr (Fr.refl _ _ _) (by rw [hcap0]; omega)
                rw [h0, hold0] at this
                rw [h0]
                simpa using this
              · -- frozen, exact
                rename_i len sz g
                cases h
                have hcl : cap = slLen (.isl len sz true g) := by
                  rcases hs.isl_inv with ⟨h1, h2⟩ | ⟨b, o, cap', c, us', h2, _, _, _, _, h3⟩
                  · cases h2; rfl
                  · cases h2; exact h3 rfl
                exact grow none st (fun f hf => by cases hf) hr (Fr.refl _ _ _) (by rw [hcl]; omega)
              · -- exact
                rename_i id off len sz
                cases h
                obtain ⟨cap', hcv, _, _, hex, _⟩ := hs.sl_inv
                have hcl : cap = slLen (.sl id off len sz true) := by cases hcv; exact hex rfl
                exact grow none st (fun f hf => by cases hf) hr (Fr.refl _ _ _) (by rw [hcl]; omega)
              · rename_i id off len sz
                split at h
                · rename_i fm cs ho
                  split at h
                  · rename_i hoff
                    subst hoff
                    cases h
                    obtain ⟨hrt, hfrt⟩ := hr.trunc ho (len * j.size)
                    have hfmn : ∀ f, some (fm.getD id) = some f → f < st.n := fun f hf => by
                      cases hf
                      cases fm with
                      | none => exact hr.lt id _ ho
                      | some g => exact hr.fam id _ g ho rfl
                    by_cases hfit : len + slLen x ≤ cap
                    · -- in its place
                      obtain ⟨cap', hcv, hid, _, _, hbnd⟩ := hs.sl_inv
                      cases hcv
                      obtain ⟨hcells, hblk⟩ := hr.obj id _ ho
                      obtain ⟨c, ct, hb, hcn, hcl⟩ := hblk rfl
                      simp only [slCells, cellsAt, ho] at hold
                      split at hold
                      · rename_i hsz
                        obtain ⟨rfl, hol⟩ := hsz
                        cases hold
                        simp only [slLen_sl] at *
                        have hm1 : (len + slLen x) * j.size ≤ cap * j.size := Nat.mul_le_mul_right _ hfit
                        rw [Nat.add_mul] at hm1
                        have hfits : (φ.f id).o + 0 + len * j.size + vs.length ≤ c.size := by rw [hvslen]; omega
                        have hrun := run_append_fits (P := P) (ty := ty) hT hi hk hd hd' hj (a := ⟨(φ.f id).b, (φ.f id).o + 0, none⟩) (len := len) (cap := cap) (hvf _ rfl w (Same.refl _ _ _)) rfl hfit hb hfits (hvs.one c6)
                        refine ⟨φ.push (φ.f id), _, _, hrun, ?_, ?_⟩
                        · have := VR.sl (φ := φ.push (φ.f id)) φ.n 0 (len + slLen x) j.size false cap (by simp [Fi.push]) hfit (by simp) (by rw [Fi.push_new]; exact hbnd)
                          rw [Fi.push_new] at this
                          rw [← hr.n]
                          exact this
                        · -- what is written lies behind all that is named
                          have hall : ∀ k ok, (⟨truncH (fm.getD id) (len * j.size) id st.h, st.n⟩ : St).h.get k = some ok → (φ.f k).b = (φ.f id).b →
                              ∃ cs', ok = .cells (some (fm.getD id)) false cs' ∧ cs'.length ≤ len * j.size ∧ (φ.f k).o = (φ.f id).o ∧ (φ.f k).n = (φ.f id).n := fun k ok hk hkb => by
                            simp only [truncH_get] at hk
                            by_cases hkid : k = id
                            · subst hkid
                              rw [ho] at hk
                              simp only [Option.map_some, beq_self_eq_true, trunc1, or_true, if_true, Option.some.injEq] at hk
                              exact ⟨_, hk.symm, by simp only [List.length_take]; omega, rfl, rfl⟩
                            · cases hgk : st.h.get k with
                              | none => rw [hgk] at hk; cases hk
                              | some o2 =>
                                rw [hgk] at hk
                                simp only [Option.map_some, Option.some.injEq] at hk
                                obtain ⟨⟨f, hf1, hf2⟩, h3, h4, h5⟩ := hr.sep id k _ o2 ho hgk (Ne.symm hkid) rfl hkb.symm
                                simp only [AObj.fam] at hf1
                                cases o2 with
                                | cells f2 ro2 cs2 =>
                                  simp only [AObj.fam] at hf2
                                  simp only [AObj.own, Bool.not_eq_true'] at h3
                                  subst hf1; subst hf2; subst h3
                                  simp only [trunc1, Option.getD_some, true_or, if_true] at hk
                                  exact ⟨_, by rw [← hk]; rfl, by simp only [List.length_take]; omega, h4.symm, h5.symm⟩
                                | loop r => cases hf2
                                | dfr => cases hf2
                                | map es clock => cases hf2
                                | iter mid since seen last => cases hf2
                          have hget1 : (⟨truncH (fm.getD id) (len * j.size) id st.h, st.n⟩ : St).h.get id = some (.cells (some (fm.getD id)) false (cs.take (len * j.size))) := by
                            simp only [truncH_get, ho, Option.map_some, trunc1, beq_self_eq_true, or_true, if_true]
                          have hlenc : c.toList.length = c.size := by simp
                          obtain ⟨hrb, hfb⟩ := hrt.beyond (X := (φ.f id).o + len * j.size) hb (c' := (c.toList.take ((φ.f id).o + 0 + len * j.size) ++ vs ++ c.toList.drop ((φ.f id).o + 0 + len * j.size + vs.length)).toArray)
                            (by simp only [List.size_toArray, List.length_append, List.length_take, List.length_drop, hlenc]; omega)
                            (fun k ok hk hkb => by obtain ⟨cs', h1, h2, h3, _⟩ := hall k ok hk hkb; exact ⟨_, cs', h1, by omega⟩)
                            (fun i hi => by
                              rw [← Array.getElem?_toList (xs := c)]
                              have := splice_get c.toList vs ((φ.f id).o + 0 + len * j.size) i (by rw [hlenc]; exact hfits)
                              rw [if_neg (by omega)] at this
                              simpa using this)
                            ⟨id, _, hget1, rfl, rfl⟩
                          have hobjn : ObjR (φ.push (φ.f id)) (w.setRow (φ.f id).b (c.toList.take ((φ.f id).o + 0 + len * j.size) ++ vs ++ c.toList.drop ((φ.f id).o + 0 + len * j.size + vs.length)).toArray) φ.n (.cells (some (fm.getD id)) false (cs.take (len * j.size) ++ new)) := by
                            have hnewb := setRow_heap w (φ.f id).b c (c.toList.take ((φ.f id).o + 0 + len * j.size) ++ vs ++ c.toList.drop ((φ.f id).o + 0 + len * j.size + vs.length)).toArray ct (0, 0) hb
                            have hnl := hvs.length
                            refine ⟨fun k a ha => ?_, fun _ => ⟨_, ct, by rw [Fi.push_new]; exact hnewb, ?_, ?_⟩⟩
                            · rw [Fi.push_new]
                              have hcellk : ∀ q, (w.setRow (φ.f id).b (c.toList.take ((φ.f id).o + 0 + len * j.size) ++ vs ++ c.toList.drop ((φ.f id).o + 0 + len * j.size + vs.length)).toArray).cell? ⟨(φ.f id).b, q, none⟩ =
                                  if (φ.f id).o + 0 + len * j.size ≤ q ∧ q < (φ.f id).o + 0 + len * j.size + vs.length then vs[q - ((φ.f id).o + 0 + len * j.size)]? else c[q]? := fun q => by
                                unfold World.cell?
                                simp only [hnewb]
                                rw [← Array.getElem?_toList (xs := c), ← splice_get c.toList vs _ q (by rw [hlenc]; exact hfits)]
                                simp
                              rw [hcellk]
                              by_cases hkl : k < len * j.size
                              · rw [List.getElem?_append_left (by simp only [List.length_take]; omega), List.getElem?_take, if_pos hkl] at ha
                                rw [if_neg (by omega)]
                                obtain ⟨u, hu, hru⟩ := hcells k a ha
                                refine ⟨u, ?_, hru.mono (φ.push_ext _)⟩
                                unfold World.cell? at hu
                                simpa [hb] using hu
                              · rw [List.getElem?_append_right (by simp only [List.length_take]; omega)] at ha
                                have htl : (cs.take (len * j.size)).length = len * j.size := by simp only [List.length_take]; omega
                                rw [htl] at ha
                                obtain ⟨u, hu, hru⟩ := hvs.get _ _ ha
                                have : k - len * j.size < vs.length := (List.getElem?_eq_some_iff.1 hu).1
                                rw [if_pos (by omega)]
                                exact ⟨u, by rw [show (φ.f id).o + k - ((φ.f id).o + 0 + len * j.size) = k - len * j.size from by omega]; exact hu, hru.mono (φ.push_ext _)⟩
                            · rw [Fi.push_new]
                              simp only [List.size_toArray, List.length_append, List.length_take, List.length_drop, hlenc]
                              omega
                            · rw [Fi.push_new]
                              simp only [List.length_append, List.length_take]
                              rw [hnl, hvslen]
                              omega
                          obtain ⟨hra, hfa⟩ := hrb.alias (.cells (some (fm.getD id)) false (cs.take (len * j.size) ++ new)) (φ.f id) hget1 rfl rfl rfl hobjn hfmn
                            (fun k ok hk hkb => by obtain ⟨cs', rfl, h2, h3, h4⟩ := hall k ok hk hkb; exact ⟨⟨_, rfl, rfl⟩, rfl, h3, h4⟩)
                          exact ⟨hra, φ.push_ext _, hfrt.trans (hfb.trans hfa)⟩
                      · cases hold
                    · exact grow (some (fm.getD id)) ⟨truncH (fm.getD id) (len * j.size) id st.h, st.n⟩ hfmn hrt hfrt (by simp only [slLen_sl]; omega)
                  · cases h
                · cases h
              · cases h
        · cases h
      · cases h
    · cases h
  · cases h

end
end Go.Fz

/-
  LIGHT OPERATIONS, THE REST: structs and arrays that are built, cuts of slices and of arrays, equality of flat values. Own work of the verifier of watercress.
-/
namespace Go.Fz

def natOf : AV → Option Nat
  | .lit (.int _ n) => if 0 ≤ n then some n.toNat else none
  | _ => none
def natOr (d : Nat) : Option AV → Option Nat
  | none => some d
  | some a => natOf a

def sliceA (T : Ti) (h : Hp) (t : TypeId) (x : AV) (lo hi mx : Option AV) : Option AV :=
  match T t with
  | none => none
  | some i =>
    match i.desc, x with
    | .slice e, .isl len sz ex g => match T e with
      | some j => if j.size = sz then
          match natOr 0 lo, natOr len hi, mx with
          | some l, some u, none => if l ≤ u ∧ u ≤ len then some (.isl (u - l) sz (ex && u == len) (fun i => g (l + i))) else none
          | some l, some u, some m => match hi, natOf m with
            | some _, some k => if l ≤ u ∧ u ≤ k ∧ k ≤ len then some (.isl (u - l) sz (u == k) (fun i => g (l + i))) else none
            | _, _ => none
          | _, _, _ => none
        else none
      | none => none
    | .slice e, .sl id off len sz ex => match T e with
      | some j => if j.size = sz then
          match natOr 0 lo, natOr len hi, mx with
          | some l, some u, none => if l ≤ u ∧ u ≤ len ∧ (l = 0 ∨ l < len) then some (.sl id (off + l * sz) (u - l) sz (ex && u == len)) else none
          | some l, some u, some m => match hi, natOf m with
            | some _, some k => if l ≤ u ∧ u ≤ k ∧ k ≤ len then some (if k = l then .sl id off 0 sz true else .sl id (off + l * sz) (u - l) sz (u == k)) else none
            | _, _ => none
          | _, _, _ => none
        else none
      | none => none
    | .slice e, .lit (.slice none 0 0) => match T e with
      | some _ => match natOr 0 lo, natOr 0 hi, mx with
        | some 0, some 0, none => some (.lit (.slice none 0 0))
        | some 0, some 0, some m => match hi, natOf m with
          | some _, some 0 => some (.lit (.slice none 0 0))
          | _, _ => none
        | _, _, _ => none
      | none => none
    | .array n e, .ptr id off => match T e, h.get id with
      | some j, some (.cells _ false cs) =>
        match natOr 0 lo, natOr n hi, mx with
        | some l, some u, none => if l ≤ u ∧ u ≤ n ∧ (l = 0 ∨ l < n) ∧ off + n * j.size ≤ cs.length then some (.sl id (off + l * j.size) (u - l) j.size (u == n)) else none
        | _, _, _ => none
      | _, _ => none
    | _, _ => none

section
variable {P : Program} {T : Ti}

theorem natOf_ok {φ : Fi} {a : AV} {v : Value} {n : Nat} (h : natOf a = some n) (hv : VR φ a v) : ∃ k, v = .int k (n : Int) := by
  unfold natOf at h
  split at h
  · rename_i k m
    split at h
    · cases h; obtain rfl := hv.lit_inv; exact ⟨k, by rw [Int.toNat_of_nonneg (by assumption)]⟩
    · cases h
  · cases h

theorem bound_ok {φ : Fi} {x : AV} {v : Value} {n y : Nat} {c : BoundsCode} (h : natOf x = some n) (hv : VR φ x v) (hy : n ≤ y) (w : World) : (Instr.sliceBound v y c).run P w = .ok n w := by
  obtain ⟨k, rfl⟩ := natOf_ok h hv
  have : (0 : Int) ≤ (n : Int) ∧ (n : Int) ≤ (y : Int) := ⟨by omega, by omega⟩
  simp [Instr.sliceBound, asIntOf, this]

theorem bounds_ok {φ : Fi} {ρa : Operand → AV} {ρ : Operand → Value} (hρ : OpR φ ρa ρ) {s : Bool} {len cap l u m : Nat} {lo hi mx : Option Operand} (h1 : natOr 0 (lo.map ρa) = some l) (h2 : natOr len (hi.map ρa) = some u)
    (h3 : (mx = none ∧ m = cap) ∨ (∃ x, mx = some x ∧ natOf (ρa x) = some m ∧ hi.isSome)) (hl : l ≤ u) (hu : u ≤ m) (hm : m ≤ cap) (w : World) :
    (Instr.sliceBounds s len cap (lo.map ρ) (hi.map ρ) (mx.map ρ)).run P w = .ok (l, u, m) w := by
  unfold Instr.sliceBounds
  rcases h3 with ⟨rfl, rfl⟩ | ⟨x, rfl, hx, hh⟩
  · cases hi with
    | none =>
      simp only [Option.map_none, natOr, Option.some.injEq] at h2
      subst h2
      cases lo with
      | none => simp only [Option.map_none, natOr, Option.some.injEq] at h1; subst h1; simp
      | some a => simp only [Option.map_some, natOr] at h1; simp [bound_ok (P := P) h1 (hρ a) hl w]
    | some b =>
      simp only [Option.map_some, natOr] at h2
      cases lo with
      | none => simp only [Option.map_none, natOr, Option.some.injEq] at h1; subst h1; simp [bound_ok (P := P) h2 (hρ b) hu w]
      | some a => simp only [Option.map_some, natOr] at h1; simp [bound_ok (P := P) h1 (hρ a) hl w, bound_ok (P := P) h2 (hρ b) hu w]
  · cases hi with
    | none => cases hh
    | some b =>
      simp only [Option.map_some, natOr] at h2
      cases lo with
      | none => simp only [Option.map_none, natOr, Option.some.injEq] at h1; subst h1; simp [bound_ok (P := P) h2 (hρ b) hu w, bound_ok (P := P) hx (hρ x) hm w]
      | some a => simp only [Option.map_some, natOr] at h1; simp [bound_ok (P := P) h1 (hρ a) hl w, bound_ok (P := P) h2 (hρ b) hu w, bound_ok (P := P) hx (hρ x) hm w]

theorem slice_ok (hT : TOk P T) {φ : Fi} {st : St} {w : World} {ρa : Operand → AV} {ρ : Operand → Value} {t : TypeId} {x : Operand} {lo hi mx : Option Operand} {r : AV} (hr : Rel φ st w) (hρ : OpR φ ρa ρ)
    (h : sliceA T st.h t (ρa x) (lo.map ρa) (hi.map ρa) (mx.map ρa) = some r) :
    ∃ u, VR φ r u ∧ ∀ w', (Instr.sliceAt t (ρ x) (lo.map ρ) (hi.map ρ) (mx.map ρ)).run P w' = .ok u w' := by
  have hadd : ∀ (b o n : Nat), Addr.add ⟨b, o, none⟩ n = ⟨b, o + n, none⟩ := fun b o n => by unfold Addr.add; split <;> simp_all
  unfold sliceA at h
  split at h
  · cases h
  · rename_i i hi'
    split at h
    · rename_i e len sz ex g hd hx
      split at h
      · rename_i j hj
        split at h
        · rename_i hsz
          subst hsz
          have hxv := hρ x
          rw [hx] at hxv
          have hnew : ∀ (l u m cap b o : Nat) (c : Nat → Option Value) (us : Nat → Nat → Value) (ex' : Bool), l ≤ u → u ≤ len → u ≤ m → m ≤ cap → (ex' = true → m = u) → φ.z b = some c → (∀ i k, i < len → k < j.size → c (o + i * j.size + k) = some (us i k)) →
              (∀ i k, i < len → k < j.size → VR φ (g i k) (us i k)) → VR φ (.isl (u - l) j.size ex' (fun i => g (l + i))) (.slice (some ⟨b, if m = l then o else o + l * j.size, none⟩) (u - l) (m - l)) := fun l u m cap b o c us ex' q1 q2 q3 q4 q5 hz hc hus => by
            refine .isl (u - l) j.size ex' _ b _ (m - l) c (fun i => us (l + i)) hz (fun i k hi hk => ?_) (fun i k hi hk => hus _ _ (by omega) hk) (by omega) (fun h => by have := q5 h; omega)
            rw [if_neg (by omega), ← hc (l + i) k (by omega) hk, Nat.add_mul]
            congr 1; omega
          split at h
          · rename_i l u h1 h2 h3
            split at h
            · rename_i hc
              cases h
              obtain ⟨c1, c2⟩ := hc
              have hmx : mx = none := by cases mx <;> simp_all
              subst hmx
              rcases hxv.isl_inv with ⟨rfl, hv⟩ | ⟨b, o, cap, c, us, hv, hz, hcc, hus, hcap, hex⟩
              · have hu0 : u = 0 := by omega
                have hl0 : l = 0 := by omega
                subst hu0; subst hl0
                have hb := fun w' => bounds_ok (P := P) (s := true) (len := 0) (cap := 0) (m := 0) hρ h1 h2 (.inl ⟨rfl, rfl⟩) c1 (by omega) (Nat.le_refl _) w'
                refine ⟨.slice none 0 0, .isl0 _ _ _, fun w' => ?_⟩
                simp only [Instr.sliceAt, Sem.run_bind, run_und hT hi', hd, Result.andThen, Instr.slice, hv, hb w', run_size hT hj, Sem.run_pure]
                simp
              · have hb := fun w' => bounds_ok (P := P) (s := true) (cap := cap) (m := cap) hρ h1 h2 (.inl ⟨rfl, rfl⟩) c1 (by omega) (Nat.le_refl _) w'
                refine ⟨_, hnew l u cap cap b o c us (ex && u == len) c1 c2 (by omega) (Nat.le_refl _) (fun he => by
                  simp only [Bool.and_eq_true, beq_iff_eq] at he
                  have := hex he.1
                  omega) hz hcc hus, fun w' => ?_⟩
                simp only [Instr.sliceAt, Sem.run_bind, run_und hT hi', hd, Result.andThen, Instr.slice, hv, hb w', run_size hT hj, Sem.run_pure]
                by_cases hl : cap = l
                · subst hl; simp
                · rw [if_neg hl, if_neg hl]
                  simp [hadd]
            · cases h
          · rename_i l u m h1 h2 h3
            split at h
            · rename_i b k hb hk
              split at h
              · rename_i hc
                cases h
                obtain ⟨c1, c2, c3⟩ := hc
                obtain ⟨y, rfl, hy⟩ : ∃ y, mx = some y ∧ ρa y = m := by cases mx <;> simp_all
                rw [← hy] at hk
                have hhi : hi.isSome := by cases hi <;> simp_all
                rcases hxv.isl_inv with ⟨rfl, hv⟩ | ⟨b, o, cap, c, us, hv, hz, hcc, hus, hcap, hex⟩
                · have hk0 : k = 0 := by omega
                  have hu0 : u = 0 := by omega
                  have hl0 : l = 0 := by omega
                  subst hu0; subst hl0; subst hk0
                  have hb' := fun w' => bounds_ok (P := P) (s := true) (len := 0) (cap := 0) hρ h1 h2 (.inr ⟨y, rfl, hk, hhi⟩) c1 c2 (Nat.le_refl _) w'
                  refine ⟨.slice none 0 0, .isl0 _ _ _, fun w' => ?_⟩
                  simp only [Instr.sliceAt, Sem.run_bind, run_und hT hi', hd, Result.andThen, Instr.slice, hv, hb' w', run_size hT hj, Sem.run_pure]
                  simp
                · have hb' := fun w' => bounds_ok (P := P) (s := true) (cap := cap) hρ h1 h2 (.inr ⟨y, rfl, hk, hhi⟩) c1 c2 (by omega) w'
                  refine ⟨_, hnew l u k cap b o c us (u == k) c1 (by omega) c2 (by omega) (fun he => by simp only [beq_iff_eq] at he; omega) hz hcc hus, fun w' => ?_⟩
                  simp only [Instr.sliceAt, Sem.run_bind, run_und hT hi', hd, Result.andThen, Instr.slice, hv, hb' w', run_size hT hj, Sem.run_pure]
                  by_cases hl : k = l
                  · subst hl; simp
                  · rw [if_neg hl, if_neg hl]
                    simp [hadd]
              · cases h
            · cases h
          · cases h
        · cases h
      · cases h
    · rename_i e id off len sz ex hd hx
      split at h
      · rename_i j hj
        split at h
        · rename_i hsz
          subst hsz
          have hxv := hρ x
          rw [hx] at hxv
          obtain ⟨cap, hv, hid, hcap, hex, hbnd⟩ := hxv.sl_inv
          split at h
          · rename_i l u h1 h2 h3
            split at h
            · rename_i hc
              cases h
              obtain ⟨c1, c2, c3⟩ := hc
              have hmx : mx = none := by cases mx <;> simp_all
              subst hmx
              have hb := fun w' => bounds_ok (P := P) (s := true) (cap := cap) (m := cap) hρ h1 h2 (.inl ⟨rfl, rfl⟩) c1 (by omega) (Nat.le_refl _) w'
              refine ⟨.slice (some ⟨(φ.f id).b, (φ.f id).o + (off + l * j.size), none⟩) (u - l) (cap - l), .sl id (off + l * j.size) (u - l) j.size _ (cap - l) hid (by omega) (fun he => ?_) ?_, fun w' => ?_⟩
              · simp only [Bool.and_eq_true, beq_iff_eq] at he
                have := hex he.1
                omega
              · have : l * j.size + (cap - l) * j.size = cap * j.size := by rw [← Nat.add_mul]; congr 1; omega
                omega
              · simp only [Instr.sliceAt, Sem.run_bind, run_und hT hi', hd, Result.andThen, Instr.slice, hv, hb w', run_size hT hj, Sem.run_pure]
                by_cases hl : cap = l
                · have hl0 : l = 0 := by omega
                  have hc0 : cap = 0 := by omega
                  subst hl0; subst hc0
                  simp
                · rw [if_neg hl]
                  simp [hadd, Nat.add_assoc]
            · cases h
          · rename_i l u m h1 h2 h3
            split at h
            · rename_i b k hb hk
              split at h
              · rename_i hc
                cases h
                obtain ⟨c1, c2, c3⟩ := hc
                obtain ⟨y, rfl, hy⟩ : ∃ y, mx = some y ∧ ρa y = m := by cases mx <;> simp_all
                rw [← hy] at hk
                have hhi : hi.isSome := by cases hi <;> simp_all
                have hb' := fun w' => bounds_ok (P := P) (s := true) (cap := cap) hρ h1 h2 (.inr ⟨y, rfl, hk, hhi⟩) c1 c2 (by omega) w'
                by_cases hl : k = l
                · subst hl
                  rw [if_pos rfl]
                  refine ⟨.slice (some ⟨(φ.f id).b, (φ.f id).o + off, none⟩) 0 0, .sl id off 0 j.size true 0 hid (Nat.le_refl _) (fun _ => rfl) (by omega), fun w' => ?_⟩
                  simp only [Instr.sliceAt, Sem.run_bind, run_und hT hi', hd, Result.andThen, Instr.slice, hv, hb' w', run_size hT hj, Sem.run_pure, if_true]
                  simp; omega
                · rw [if_neg hl]
                  refine ⟨.slice (some ⟨(φ.f id).b, (φ.f id).o + (off + l * j.size), none⟩) (u - l) (k - l), .sl id (off + l * j.size) (u - l) j.size _ (k - l) hid (by omega) (fun he => ?_) ?_, fun w' => ?_⟩
                  · simp only [beq_iff_eq] at he; omega
                  · have : l * j.size + (k - l) * j.size = k * j.size := by rw [← Nat.add_mul]; congr 1; omega
                    have h5 : k * j.size ≤ cap * j.size := Nat.mul_le_mul_right _ (by omega)
                    omega
                  · simp only [Instr.sliceAt, Sem.run_bind, run_und hT hi', hd, Result.andThen, Instr.slice, hv, hb' w', run_size hT hj, Sem.run_pure]
                    rw [if_neg hl]
                    simp [hadd, Nat.add_assoc]
              · cases h
            · cases h
          · cases h
        · cases h
      · cases h
    · rename_i e hd hx
      split at h
      · rename_i j hj
        have hv : ρ x = .slice none 0 0 := by have := hρ x; rw [hx] at this; exact this.lit_inv
        split at h
        · rename_i h1 h2 h3
          cases h
          have hmx : mx = none := by cases mx <;> simp_all
          subst hmx
          have hb := fun w' => bounds_ok (P := P) (s := true) (cap := 0) (m := 0) hρ h1 h2 (.inl ⟨rfl, rfl⟩) (Nat.le_refl _) (Nat.le_refl _) (Nat.le_refl _) w'
          refine ⟨_, .lit _, fun w' => ?_⟩
          simp only [Instr.sliceAt, Sem.run_bind, run_und hT hi', hd, Result.andThen, Instr.slice, hv, hb w', run_size hT hj, Sem.run_pure]
          simp
        · rename_i m h1 h2 h3
          split at h
          · rename_i b hb hk
            cases h
            obtain ⟨y, rfl, hy⟩ : ∃ y, mx = some y ∧ ρa y = m := by cases mx <;> simp_all
            rw [← hy] at hk
            have hhi : hi.isSome := by cases hi <;> simp_all
            have hb' := fun w' => bounds_ok (P := P) (s := true) (cap := 0) hρ h1 h2 (.inr ⟨y, rfl, hk, hhi⟩) (Nat.le_refl _) (Nat.le_refl _) (Nat.le_refl _) w'
            refine ⟨_, .lit _, fun w' => ?_⟩
            simp only [Instr.sliceAt, Sem.run_bind, run_und hT hi', hd, Result.andThen, Instr.slice, hv, hb' w', run_size hT hj, Sem.run_pure]
            simp
          · cases h
        · cases h
      · cases h
    · rename_i n e id off hd hx
      split at h
      · rename_i j fm cs hj ho
        have hxv := hρ x
        rw [hx] at hxv
        obtain ⟨hv, hid⟩ := hxv.ptr_inv
        obtain ⟨_, hblk⟩ := hr.obj id _ ho
        obtain ⟨c, ct, hb0, hcn, hcl⟩ := hblk rfl
        split at h
        · rename_i l u h1 h2 h3
          split at h
          · rename_i hc
            cases h
            obtain ⟨c1, c2, c3, c4⟩ := hc
            have hmx : mx = none := by cases mx <;> simp_all
            subst hmx
            have hb := fun w' => bounds_ok (P := P) (s := false) (len := n) (cap := n) (m := n) hρ h1 h2 (.inl ⟨rfl, rfl⟩) c1 (by omega) (Nat.le_refl _) w'
            refine ⟨.slice (some ⟨(φ.f id).b, (φ.f id).o + (off + l * j.size), none⟩) (u - l) (n - l), .sl id (off + l * j.size) (u - l) j.size _ (n - l) hid (by omega) (fun he => ?_) ?_, fun w' => ?_⟩
            · simp only [beq_iff_eq] at he; omega
            · have : l * j.size + (n - l) * j.size = n * j.size := by rw [← Nat.add_mul]; congr 1; omega
              omega
            · simp only [Instr.sliceAt, Sem.run_bind, run_und hT hi', hd, Result.andThen, hv, Instr.sureAddr, hb w', run_size hT hj, Sem.run_pure]
              by_cases hl : n = l
              · have hl0 : l = 0 := by omega
                have hn0 : n = 0 := by omega
                subst hl0; subst hn0
                simp
              · rw [if_neg hl]
                simp [hadd, Nat.add_assoc]
          · cases h
        · cases h
      · cases h
    · cases h

/-! ### Structs and arrays that are built -/
end
def placesA (T : Ti) : List Field → Option (List (Nat × Nat))
  | [] => some []
  | f :: fs => match T f.type, placesA T fs with
    | some i, some r => some ((f.offset, i.size) :: r)
    | _, _ => none

def buildA (T : Ti) (t : TypeId) (parts : List (Nat × AV)) : Option AV :=
  match T t with
  | none => none
  | some i => match i.desc with
    | .struct fs => match placesA T fs.toList with
      | some places => (fillA (fun k => places[k]?) (i.zero.map .lit) parts).map .agg
      | none => none
    | .array _ e => match T e with
      | some j => (fillA (fun k => some (k * j.size, j.size)) (i.zero.map .lit) parts).map .agg
      | none => none
    | _ => none

section
variable {P : Program} {T : Ti}

theorem places_ok (hT : TOk P T) : ∀ (fs : List Field) (places : List (Nat × Nat)), placesA T fs = some places → fs.mapM (fun f => (P.info? f.type).map fun i => (f.offset, i.size)) = some places
  | [], places, h => by simp only [placesA, Option.some.injEq] at h; subst h; rfl
  | f :: fs, places, h => by
    simp only [placesA] at h
    split at h
    · rename_i i r hi hr
      cases h
      obtain ⟨ti, z, h1, h2, _⟩ := (hT _ i hi).info
      simp [List.mapM_cons, h1, h2, places_ok hT fs r hr]
    · cases h

theorem build_ok (hT : TOk P T) {φ : Fi} {ρa : Operand → AV} {ρ : Operand → Value} (hρ : OpR φ ρa ρ) {t : TypeId} {parts : Array (Nat × Operand)} {r : AV} (h : buildA T t (parts.toList.map fun p => (p.1, ρa p.2)) = some r) :
    ∃ u, VR φ r u ∧ ∀ w, (Instr.build t (parts.map fun (i, x) => (i, ρ x))).run P w = .ok u w := by
  have hpm : (Array.map (fun (x : Nat × Operand) => (x.1, ρ x.2)) parts).toList = parts.toList.map fun p => (p.1, ρ p.2) := by simp
  unfold buildA at h
  split at h
  · cases h
  · rename_i i hi
    obtain ⟨ti, z, h1, h2, h3, h4, h5⟩ := (hT t i hi).info
    have hu := (hT t i hi).und
    have hzl : VRL φ (i.zero.map .lit) z.cells.toList := by rw [h5]; exact VRL.lits _
    split at h
    · rename_i fs hd
      split at h
      · rename_i places hp
        rw [Option.map_eq_some_iff] at h
        obtain ⟨cs, hf, rfl⟩ := h
        obtain ⟨rs, g1, g2⟩ := fill_ok hρ parts.toList hzl hf
        refine ⟨_, .agg g2, fun w => run_build w t _ _ ?_⟩
        rw [hd] at hu
        simp only [Program.built, h1, hu, h4, places_ok hT fs.toList places hp, hpm]
        simpa using g1
      · cases h
    · rename_i n e hd
      split at h
      · rename_i j hj
        rw [Option.map_eq_some_iff] at h
        obtain ⟨cs, hf, rfl⟩ := h
        obtain ⟨rs, g1, g2⟩ := fill_ok hρ parts.toList hzl hf
        obtain ⟨tj, zj, k1, k2, _⟩ := (hT e j hj).info
        refine ⟨_, .agg g2, fun w => run_build w t _ _ ?_⟩
        rw [hd] at hu
        simp only [Program.built, h1, hu, h4, k1, k2, hpm]
        simpa using g1
      · cases h
    · cases h
end

/-! ### Equality of flat values -/
def eqFsA (T : Ti) (eq : TypeId → AV → AV → Option Bool) (xs ys : List AV) : List Field → Option Bool
  | [] => some true
  | f :: fs =>
    if f.name ≠ "_" then
      match partA T f.type xs f.offset, partA T f.type ys f.offset with
      | some a, some b => match eq f.type a b with
        | some true => eqFsA T eq xs ys fs
        | some false => some false
        | none => none
      | _, _ => none
    else eqFsA T eq xs ys fs
def eqIsA (T : Ti) (eq : TypeId → AV → AV → Option Bool) (e : TypeId) (sz : Nat) (xs ys : List AV) : List Nat → Option Bool
  | [] => some true
  | i :: is =>
    match partA T e xs (i * sz), partA T e ys (i * sz) with
    | some a, some b => match eq e a b with
      | some true => eqIsA T eq e sz xs ys is
      | some false => some false
      | none => none
    | _, _ => none
def eqA (T : Ti) : Nat → TypeId → AV → AV → Option Bool
  | 0, _, _, _ => none
  | d + 1, t, a, b =>
    match T t with
    | none => none
    | some i => match i.desc, a, b with
      | .bool, .lit (.bool x), .lit (.bool y) => some (x == y)
      | .int _, .lit (.int k x), .lit (.int k' y) => if k = k' then some (x == y) else none
      | .struct fs, .agg xs, .agg ys => if i.flat then eqFsA T (eqA T d) xs ys fs.toList else none
      | .array n e, .agg xs, .agg ys => match T e with
        | some j => eqIsA T (eqA T d) e j.size xs ys (List.range n)
        | none => none
      | _, _, _ => none

section
variable {P : Program} {T : Ti}

theorem eqFs_ok (hT : TOk P T) {φ : Fi} {eq : TypeId → AV → AV → Option Bool} {D : Nat} (heq : ∀ t a b u v r, VR φ a u → VR φ b v → eq t a b = some r → ∀ w, (Op.equalIn D t u v).run P w = .ok r w)
    {xs ys : List AV} {us vs : List Value} (hx : VRL φ xs us) (hy : VRL φ ys vs) : ∀ (fs : List Field) (r : Bool), eqFsA T eq xs ys fs = some r → ∀ w, (Op.eqFields D us.toArray vs.toArray fs).run P w = .ok r w
  | [], r, h, w => by simp only [eqFsA, Option.some.injEq] at h; subst h; rfl
  | f :: fs, r, h, w => by
    simp only [eqFsA] at h
    simp only [Op.eqFields]
    split at h
    · rename_i hn
      rw [if_pos hn]
      split at h
      · rename_i a b ha hb
        obtain ⟨u, hu, hru⟩ := part_ok (P := P) hT hx ha
        obtain ⟨v, hv, hrv⟩ := part_ok (P := P) hT hy hb
        split at h
        · rename_i hq
          simp [Sem.run_bind, hru, hrv, heq _ _ _ _ _ _ hu hv hq w, Result.andThen, eqFs_ok hT heq hx hy fs r h w]
        · rename_i hq
          cases h
          simp [Sem.run_bind, hru, hrv, heq _ _ _ _ _ _ hu hv hq w, Result.andThen]
        · cases h
      · cases h
    · rename_i hn
      rw [if_neg hn]
      exact eqFs_ok hT heq hx hy fs r h w
theorem eqIs_ok (hT : TOk P T) {φ : Fi} {eq : TypeId → AV → AV → Option Bool} {D : Nat} (heq : ∀ t a b u v r, VR φ a u → VR φ b v → eq t a b = some r → ∀ w, (Op.equalIn D t u v).run P w = .ok r w)
    {e : TypeId} {sz : Nat} {xs ys : List AV} {us vs : List Value} (hx : VRL φ xs us) (hy : VRL φ ys vs) : ∀ (is : List Nat) (r : Bool), eqIsA T eq e sz xs ys is = some r → ∀ w, (Op.eqItems D e sz us.toArray vs.toArray is).run P w = .ok r w
  | [], r, h, w => by simp only [eqIsA, Option.some.injEq] at h; subst h; rfl
  | i :: is, r, h, w => by
    simp only [eqIsA] at h
    simp only [Op.eqItems]
    split at h
    · rename_i a b ha hb
      obtain ⟨u, hu, hru⟩ := part_ok (P := P) hT hx ha
      obtain ⟨v, hv, hrv⟩ := part_ok (P := P) hT hy hb
      split at h
      · rename_i hq
        simp [Sem.run_bind, hru, hrv, heq _ _ _ _ _ _ hu hv hq w, Result.andThen, eqIs_ok hT heq hx hy is r h w]
      · rename_i hq
        cases h
        simp [Sem.run_bind, hru, hrv, heq _ _ _ _ _ _ hu hv hq w, Result.andThen]
      · cases h
    · cases h

theorem eqA_ok (hT : TOk P T) {φ : Fi} : ∀ (d D : Nat) (t : TypeId) (a b : AV) (u v : Value) (r : Bool), d ≤ D → VR φ a u → VR φ b v → eqA T d t a b = some r → ∀ w, (Op.equalIn D t u v).run P w = .ok r w
  | 0, _, _, _, _, _, _, _, _, _, _, h => by cases h
  | d + 1, D, t, a, b, u, v, r, hD, ha, hb, h => by
    intro w
    obtain ⟨D', rfl⟩ : ∃ D', D = D' + 1 := ⟨D - 1, by omega⟩
    simp only [eqA] at h
    split at h
    · cases h
    · rename_i i hi
      have hu := (hT t i hi).und
      split at h
      · rename_i x y hd
        obtain rfl := ha.lit_inv
        obtain rfl := hb.lit_inv
        cases h
        exact run_equalIn_bool' w D' t x y (by rw [hu, hd])
      · rename_i k0 k x k' y hd
        split at h
        · rename_i hk; subst hk
          obtain rfl := ha.lit_inv
          obtain rfl := hb.lit_inv
          cases h
          exact run_equalIn_int w D' t k k0 x y (by rw [hu, hd])
        · cases h
      · rename_i fs xs ys hd
        split at h
        · rename_i hf
          obtain ⟨us, rfl, hx⟩ := ha.agg_inv
          obtain ⟨vs, rfl, hy⟩ := hb.agg_inv
          have hfo : P.fieldsOf t = fs := by simp [Program.fieldsOf, hu, hd]
          rw [run_equalIn_struct w D' t _ _ (by rw [hfo, hu, hd]) ((hT t i hi).flat hf).1, hfo]
          exact eqFs_ok hT (fun t a b u v r h1 h2 h3 w => eqA_ok hT d D' t a b u v r (by omega) h1 h2 h3 w) hx hy fs.toList r h w
        · cases h
      · rename_i n e xs ys hd
        split at h
        · rename_i j hj
          obtain ⟨us, rfl, hx⟩ := ha.agg_inv
          obtain ⟨vs, rfl, hy⟩ := hb.agg_inv
          obtain ⟨tj, zj, k1, k2, _⟩ := (hT e j hj).info
          rw [Go.run_equalIn_array w D' _ _ (by rw [hu, hd]) k1]
          have hc : P.cellsOf e = j.size := by simp [Program.cellsOf, k1, k2]
          rw [hc]
          exact eqIs_ok hT (fun t a b u v r h1 h2 h3 w => eqA_ok hT d D' t a b u v r (by omega) h1 h2 h3 w) hx hy (List.range n) r h w
        · cases h
      · cases h
end

theorem eqA_agg {T : Ti} {φ : Fi} {t : TypeId} {i : TI} (hi : T t = some i) (hd : aggD i.desc = true) {d : Nat} {a b : AV} {u v : Value} {r : Bool} (ha : VR φ a u) (hb : VR φ b v) (h : eqA T d t a b = some r) :
    ∃ us vs, u = .agg us ∧ v = .agg vs := by
  cases d with
  | zero => cases h
  | succ d =>
    simp only [eqA, hi] at h
    split at h
    · rename_i hq; rw [hq] at hd; cases hd
    · rename_i hq; rw [hq] at hd; cases hd
    · obtain ⟨us, rfl, _⟩ := ha.agg_inv
      obtain ⟨vs, rfl, _⟩ := hb.agg_inv
      exact ⟨_, _, rfl, rfl⟩
    · obtain ⟨us, rfl, _⟩ := ha.agg_inv
      obtain ⟨vs, rfl, _⟩ := hb.agg_inv
      exact ⟨_, _, rfl, rfl⟩
    · cases h

def boolOf : AV → Option Bool
  | .lit (.bool b) => some b
  | .sb b => some b
  | _ => none
theorem boolOf_ok {φ : Fi} {a : AV} {b : Bool} {u : Value} (h : boolOf a = some b) (hv : VR φ a u) : u = .bool b := by
  unfold boolOf at h
  split at h
  · cases h; exact hv.lit_inv
  · cases h; exact hv.sb_inv
  · cases h
def boolPair (T : Ti) (t : TypeId) (a b : AV) : Option (Bool × Bool) := match T t with
  | some i => match i.desc with
    | .bool => match boolOf a, boolOf b with
      | some x, some y => some (x, y)
      | _, _ => none
    | _ => none
  | none => none

/-- All light operations. -/
def evG (T : Ti) (h : Hp) (ρ : Operand → AV) (o : Oper) : Option AV :=
  match o.op with
  | .slice t x lo hi mx => sliceA T h t (ρ x) (lo.map ρ) (hi.map ρ) (mx.map ρ)
  | .build t parts => buildA T t (parts.toList.map fun p => (p.1, ρ p.2))
  | .binOp .eql t x y _ => match boolPair T t (ρ x) (ρ y) with
    | some (a, c) => some (.sb (a == c))
    | none => match T t with
    | some i => if i.flat && aggD i.desc then (eqA T 6 t (ρ x) (ρ y)).map fun b => .sb b else evL T h ρ o
    | none => evL T h ρ o
  | .binOp .neq t x y _ => match boolPair T t (ρ x) (ρ y) with
    | some (a, c) => some (.sb (a != c))
    | none => match T t with
    | some i => if i.flat && aggD i.desc then (eqA T 6 t (ρ x) (ρ y)).map fun b => .sb !b else evL T h ρ o
    | none => evL T h ρ o
  | _ => evL T h ρ o

section
variable {P : Program} {T : Ti}
theorem boolPair_ok (hT : TOk P T) {φ : Fi} {t : TypeId} {a b : AV} {u v : Value} {p : Bool × Bool} (ha : VR φ a u) (hb : VR φ b v) (h : boolPair T t a b = some p) :
    u = .bool p.1 ∧ v = .bool p.2 ∧ ∀ w, (Op.equal t u v).run P w = .ok (p.1 == p.2) w := by
  unfold boolPair at h
  split at h
  · rename_i i hi
    split at h
    · rename_i hd
      split at h
      · rename_i x y hx hy
        cases h
        obtain rfl := boolOf_ok hx ha
        obtain rfl := boolOf_ok hy hb
        refine ⟨rfl, rfl, fun w => ?_⟩
        exact eqA_ok (P := P) hT 1 _ t (.lit (.bool x)) (.lit (.bool y)) _ _ _ (by decide) (.lit (φ := φ) _) (.lit _) (by simp [eqA, hi, hd]) w
      · cases h
    · cases h
  · cases h
theorem evG_ok (hT : TOk P T) {φ : Fi} {st : St} {w : World} {ρa : Operand → AV} {ρ : Operand → Value} {o : Oper} {r : AV} (hr : Rel φ st w) (hρ : OpR φ ρa ρ) (h : evG T st.h ρa o = some r) :
    ∃ u, VR φ r u ∧ ∀ w', Same φ st.h w w' → (execOp ρ o).run P w' = .ok (.value u) w' := by
  unfold evG at h
  split at h
  · rename_i t x lo hi mx hx
    obtain ⟨u, h1, h2⟩ := slice_ok (P := P) hT hr hρ h
    exact ⟨u, h1, fun w' _ => by simp [execOp, hx, h2 w', Result.andThen]⟩
  · rename_i t parts hx
    obtain ⟨u, h1, h2⟩ := build_ok (P := P) hT hρ h
    exact ⟨u, h1, fun w' _ => by simp only [execOp, hx, Sem.run_bind, h2 w', Result.andThen, Sem.run_pure]⟩
  · rename_i t x y yt hx
    split at h
    · rename_i a c hbp
      cases h
      obtain ⟨h1, h2, h3⟩ := boolPair_ok (P := P) hT (hρ x) (hρ y) hbp
      simp only at h1 h2 h3
      refine ⟨_, .sb _, fun w' _ => ?_⟩
      have h4 := h3 w'
      rw [h1, h2] at h4
      have hg : (eqGuard .eql t x y (.bool a) (.bool c)).run P w' = .ok () w' := by
        unfold eqGuard
        split <;> simp
      simp [execOp, hx, h1, h2, Sem.run_bind, hg, binOp, h4, Result.andThen, bne]
    split at h
    · rename_i i hi
      split at h
      · rename_i hf
        simp only [Bool.and_eq_true] at hf
        rw [Option.map_eq_some_iff] at h
        obtain ⟨b, hb, rfl⟩ := h
        obtain ⟨us, vs, hu, hv⟩ := eqA_agg hi hf.2 (hρ x) (hρ y) hb
        have hq := eqA_ok (P := P) hT 6 10000 t _ _ _ _ b (by omega) (hρ x) (hρ y) hb
        refine ⟨.bool b, .sb _, fun w' _ => ?_⟩
        rw [hu, hv] at hq
        simp [execOp, hx, Sem.run_bind, hu, hv, run_eqGuard_agg w' _ t x y us vs ((hT t i hi).flat hf.1).2, run_eql_struct, hq w', Result.andThen]
      · exact evL_ok hT hr hρ h
    · exact evL_ok hT hr hρ h
  · rename_i t x y yt hx
    split at h
    · rename_i a c hbp
      cases h
      obtain ⟨h1, h2, h3⟩ := boolPair_ok (P := P) hT (hρ x) (hρ y) hbp
      simp only at h1 h2 h3
      refine ⟨_, .sb _, fun w' _ => ?_⟩
      have h4 := h3 w'
      rw [h1, h2] at h4
      have hg : (eqGuard .neq t x y (.bool a) (.bool c)).run P w' = .ok () w' := by
        unfold eqGuard
        split <;> simp
      simp [execOp, hx, h1, h2, Sem.run_bind, hg, binOp, h4, Result.andThen, bne]
    split at h
    · rename_i i hi
      split at h
      · rename_i hf
        simp only [Bool.and_eq_true] at hf
        rw [Option.map_eq_some_iff] at h
        obtain ⟨b, hb, rfl⟩ := h
        obtain ⟨us, vs, hu, hv⟩ := eqA_agg hi hf.2 (hρ x) (hρ y) hb
        have hq := eqA_ok (P := P) hT 6 10000 t _ _ _ _ b (by omega) (hρ x) (hρ y) hb
        refine ⟨.bool !b, .sb _, fun w' _ => ?_⟩
        rw [hu, hv] at hq
        simp [execOp, hx, Sem.run_bind, hu, hv, run_eqGuard_agg w' _ t x y us vs ((hT t i hi).flat hf.1).2, run_neq_struct, hq w', Result.andThen]
      · exact evL_ok hT hr hρ h
    · exact evL_ok hT hr hρ h
  · exact evL_ok hT hr hρ h
end
end Go.Fz

/-
  WHAT CODE DOES, said of abstract frames and heaps: operations in their order, statements, loops. Own work of the verifier of watercress.
-/
namespace Go.Fz

structure Fm where
  ts : Ts
  dm : List Nat

def Fm.put (f : Fm) (dst : Option Tmp) (v : AV) : Fm :=
  match dst with
  | some d => ⟨f.ts.put d v, f.dm⟩
  | none => f

structure ActR (φ : Fi) (f : Fm) (a : Act) : Prop where
  ts : TsR φ f.ts a.tmps
  dm : a.defers = f.dm.map fun id => { target := .collected (φ.f id).b, args := #[] }
  lt : ∀ id ∈ f.dm, id < φ.n

theorem ActR.mono {φ φ' : Fi} {f : Fm} {a : Act} (he : Ext φ φ') (h : ActR φ f a) : ActR φ' f a :=
  ⟨h.ts.mono he, by rw [h.dm]; exact List.map_congr_left fun id hi => by rw [he.f id (h.lt id hi)], fun id hi => Nat.lt_of_lt_of_le (h.lt id hi) he.n⟩

theorem ActR.put {φ : Fi} {f : Fm} {a : Act} (h : ActR φ f a) (dst : Option Tmp) {v : AV} {u : Value} (hv : VR φ v u) : ActR φ (f.put dst v) (a.put dst u) := by
  cases dst with
  | none => exact h
  | some d => exact ⟨h.ts.put d hv, h.dm, h.lt⟩

/-- The fence of a round, or none. -/
def FW (r : Option Nat) : Fence := { fn := fun _ => True, depth := none, alive := false, round := r }
theorem FW_none : FW none = Fence.wide := rfl
def rdB (φ : Fi) (rd : Option Nat) : Option Nat := rd.map fun id => (φ.f id).b
theorem rdB_ext {φ φ' : Fi} (he : Ext φ φ') {rd : Option Nat} (h : ∀ id, rd = some id → id < φ.n) : rdB φ' rd = rdB φ rd := by
  cases rd with
  | none => rfl
  | some id => simp [rdB, he.f id (h id rfl)]

def Lift (φ : Fi) (st : St) (w : World) (Q : Exit → Fm → St → Prop) : Exit → Act → World → Prop :=
  fun e a w' => ∃ f' st' φ', Q e f' st' ∧ Ext φ φ' ∧ Rel φ' st' w' ∧ ActR φ' f' a ∧ Fr φ st w φ' st' w'

theorem Lift.trans {φ φ' : Fi} {st st' : St} {w w' : World} {Q : Exit → Fm → St → Prop} {e : Exit} {a : Act} {w'' : World} (he : Ext φ φ') (hf : Fr φ st w φ' st' w') (h : Lift φ' st' w' Q e a w'') : Lift φ st w Q e a w'' := by
  obtain ⟨f2, st2, φ2, hq, he2, hr2, ha2, hf2⟩ := h
  exact ⟨f2, st2, φ2, hq, he.trans he2, hr2, ha2, hf.trans hf2⟩

variable (P : Program) (T : Ti)

/-- A statement. -/
def SW (rd : Option Nat) (c : Code) (Q : Exit → Fm → St → Prop) (f : Fm) (st : St) : Prop :=
  ∀ (φ : Fi) (w : World) (a : Act) (n : Nat), (∀ id, rd = some id → id < φ.n) → Rel φ st w → ActR φ f a → c.wpIn (FW (rdB φ rd)) n P (Lift φ st w Q) a w

/-- Operations in an order. -/
def OpsW (rd : Option Nat) (ops : Array Oper) (l : List Nat) (K : Fm → St → Prop) (f : Fm) (st : St) : Prop :=
  ∀ (φ : Fi) (w : World) (a : Act) (n : Nat) (Q : Exit → Act → World → Prop), (∀ id, rd = some id → id < φ.n) → Rel φ st w → ActR φ f a →
    (∀ a' w', Lift φ st w (fun _ f' st' => K f' st') .normal a' w' → Q .normal a' w') → wpOpsIn (FW (rdB φ rd)) n P ops Q l a w

variable {P T}

theorem SW.mono {rd : Option Nat} {c : Code} {Q Q' : Exit → Fm → St → Prop} {f : Fm} {st : St} (h : SW P rd c Q f st) (hq : ∀ e f st, Q e f st → Q' e f st) : SW P rd c Q' f st :=
  fun φ w a n h1 h2 h3 => wpIn_mono (h φ w a n h1 h2 h3) fun _ _ _ ⟨f', st', φ', k, r⟩ => ⟨f', st', φ', hq _ _ _ k, r⟩

theorem Lift.here {φ : Fi} {st : St} {w : World} {Q : Exit → Fm → St → Prop} {e : Exit} {f : Fm} {a : Act} (hq : Q e f st) (hr : Rel φ st w) (ha : ActR φ f a) : Lift φ st w Q e a w :=
  ⟨f, st, φ, hq, Ext.refl _, hr, ha, Fr.refl _ _ _⟩

theorem SW.skip {rd : Option Nat} {Q : Exit → Fm → St → Prop} {f : Fm} {st : St} (h : Q .normal f st) : SW P rd .skip Q f st :=
  fun _ _ _ _ _ h2 h3 => wpIn_skip (Lift.here h h2 h3)
theorem SW.label {rd : Option Nat} {l : Nat} {Q : Exit → Fm → St → Prop} {f : Fm} {st : St} (h : Q .normal f st) : SW P rd (.label l) Q f st :=
  fun _ _ _ _ _ h2 h3 => wpIn_label (Lift.here h h2 h3)
theorem SW.exit {rd : Option Nat} {id : Nat} {Q : Exit → Fm → St → Prop} {f : Fm} {st : St} (h : Q (.exit id) f st) : SW P rd (.exit id) Q f st :=
  fun _ _ _ _ _ h2 h3 => wpIn_exit (Lift.here h h2 h3)
theorem SW.ret {rd : Option Nat} {Q : Exit → Fm → St → Prop} {f : Fm} {st : St} (h : Q .ret f st) : SW P rd .ret Q f st :=
  fun _ _ _ _ _ h2 h3 => wpIn_ret (Lift.here h h2 h3)

def thenQ (K : Fm → St → Prop) (Q : Exit → Fm → St → Prop) : Exit → Fm → St → Prop
  | .normal, f, st => K f st
  | e, f, st => Q e f st

theorem SW.seq {rd : Option Nat} {x y : Code} {Q : Exit → Fm → St → Prop} {f : Fm} {st : St} (h : SW P rd x (thenQ (SW P rd y Q) Q) f st) : SW P rd (.seq x y) Q f st := by
  intro φ w a n h1 h2 h3
  refine wpIn_seq (wpIn_mono (h φ w a n h1 h2 h3) fun e a' w' hq => ?_)
  obtain ⟨f', st', φ', k, he, hr, ha, hf⟩ := hq
  cases e with
  | normal =>
    have := k φ' w' a' n (fun id hi => Nat.lt_of_lt_of_le (h1 id hi) he.n) hr ha
    rw [rdB_ext he h1] at this
    exact wpIn_mono this fun e a w h => h.trans he hf
  | exit id => exact ⟨f', st', φ', k, he, hr, ha, hf⟩
  | goto id => exact ⟨f', st', φ', k, he, hr, ha, hf⟩
  | ret => exact ⟨f', st', φ', k, he, hr, ha, hf⟩
  | panic c => exact ⟨f', st', φ', k, he, hr, ha, hf⟩
  | outgrown => exact ⟨f', st', φ', k, he, hr, ha, hf⟩

theorem eval_bool {φ : Fi} {f : Fm} {a : Act} (h : ActR φ f a) {c : Operand} {t : Bool} (hc : Operand.av f.ts c = .lit (.bool t)) : a.eval c = .bool t := by
  have := opR_of h.ts c
  rw [hc] at this
  exact this.lit_inv

theorem SW.cond {rd : Option Nat} {c : Operand} {x y : Code} {t : Bool} {Q : Exit → Fm → St → Prop} {f : Fm} {st : St} (hc : Operand.av f.ts c = .lit (.bool t)) (h : SW P rd (if t then x else y) Q f st) : SW P rd (.cond c x y) Q f st :=
  fun φ w a n h1 h2 h3 => wpIn_cond (eval_bool h3 hc) (h φ w a n h1 h2 h3)

theorem SW.condS {rd : Option Nat} {c : Operand} {x y : Code} {t : Bool} {Q : Exit → Fm → St → Prop} {f : Fm} {st : St} (hc : boolOf (Operand.av f.ts c) = some t) (h1 : t = true → SW P rd x Q f st) (h0 : t = false → SW P rd y Q f st) : SW P rd (.cond c x y) Q f st :=
  fun φ w a n k1 k2 k3 => by
    have he : a.eval c = .bool t := boolOf_ok hc (opR_of k3.ts c)
    exact wpIn_cond he (by cases t; exact h0 rfl φ w a n k1 k2 k3; exact h1 rfl φ w a n k1 k2 k3)

def blockQ (id : Nat) (Q : Exit → Fm → St → Prop) : Exit → Fm → St → Prop
  | .exit id', f, st => match Nat.beq id' id with
    | true => Q .normal f st
    | false => Q (.exit id') f st
  | e, f, st => Q e f st

theorem SW.block {rd : Option Nat} {id : Nat} {c : Code} {Q : Exit → Fm → St → Prop} {f : Fm} {st : St} (h : SW P rd c (blockQ id Q) f st) : SW P rd (.block id c) Q f st := by
  intro φ w a n h1 h2 h3
  refine wpIn_block (wpIn_mono (h φ w a n h1 h2 h3) fun e a' w' hq => ?_)
  obtain ⟨f', st', φ', k, r⟩ := hq
  cases e with
  | exit id' =>
    simp only [blockQ, Exit.inBlock] at k ⊢
    split
    · rename_i hid
      have hb : Nat.beq id' id = true := by rw [hid]; exact Nat.beq_refl id
      rw [hb] at k
      exact ⟨f', st', φ', k, r⟩
    · rename_i hid
      have hb : Nat.beq id' id = false := by rw [← Bool.not_eq_true]; exact fun h => hid (Nat.eq_of_beq_eq_true h)
      rw [hb] at k
      exact ⟨f', st', φ', k, r⟩
  | normal => exact ⟨f', st', φ', k, r⟩
  | goto id => exact ⟨f', st', φ', k, r⟩
  | ret => exact ⟨f', st', φ', k, r⟩
  | panic c => exact ⟨f', st', φ', k, r⟩
  | outgrown => exact ⟨f', st', φ', k, r⟩

/-- A loop: what holds at each round's head, and a measure. -/
theorem SW.loop {rd : Option Nat} {c : Code} {Q : Exit → Fm → St → Prop} {f : Fm} {st : St} (I : Nat → Fm → St → Prop) (k : Nat) (h0 : I k f st)
    (hround : ∀ k f st, I k f st → SW P rd c (thenQ (fun f' st' => ∃ k', k' < k ∧ I k' f' st') Q) f st) : SW P rd (.loop c) Q f st := by
  intro φ w a n h1 h2 h3
  -- the invariant, over worlds
  let J : Nat → Act → World → Prop := fun k a' w' => ∃ f' st' φ', I k f' st' ∧ Ext φ φ' ∧ Rel φ' st' w' ∧ ActR φ' f' a' ∧ Fr φ st w φ' st' w'
  intro b kk cs hro hb hroom
  have key : ∀ k a' w', J k a' w' → ∃ e a₂ w₂, Lift φ st w Q e a₂ w₂ ∧ ArrivesIn (Machine.fenced P (FW (rdB φ rd))) P (lone (b.atR a' (.code c :: .inLoop c :: kk)) cs w') b kk cs e a₂ w₂ := by
    intro k
    induction k using Nat.strongRecOn with
    | _ k ih =>
      intro a' w' hj
      obtain ⟨f', st', φ', hi, he, hr, ha, hf⟩ := hj
      have hr1 := hround k f' st' hi φ' w' a' n (fun id hi => Nat.lt_of_lt_of_le (h1 id hi) he.n) hr ha
      rw [rdB_ext he h1] at hr1
      obtain ⟨e, a₁, w₁, hq, harr⟩ := hr1 b (.inLoop c :: kk) cs hro hb hroom
      obtain ⟨f2, st2, φ2, hk, he2, hr2, ha2, hf2⟩ := hq
      cases e with
      | normal =>
        obtain ⟨k', hlt, hi'⟩ := hk
        obtain ⟨e₂, a₂, w₂, hq₂, harr₂⟩ := ih k' hlt a₁ w₁ ⟨f2, st2, φ2, hi', he.trans he2, hr2, ha2, hf.trans hf2⟩
        exact ⟨e₂, a₂, w₂, hq₂, .of_steps (StepsIn.trans harr (.one (fenced_calm hb hroom rfl) stepR_inLoop)) harr₂⟩
      | exit id => exact ⟨_, a₁, w₁, ⟨f2, st2, φ2, hk, he.trans he2, hr2, ha2, hf.trans hf2⟩, .pass (x := .inLoop c) rfl (fun _ _ => .inl (by simp)) harr⟩
      | goto l => exact ⟨_, a₁, w₁, ⟨f2, st2, φ2, hk, he.trans he2, hr2, ha2, hf.trans hf2⟩, .pass (x := .inLoop c) rfl (fun _ _ => .inl (by simp)) harr⟩
      | ret => exact ⟨_, a₁, w₁, ⟨f2, st2, φ2, hk, he.trans he2, hr2, ha2, hf.trans hf2⟩, .pass (x := .inLoop c) rfl (fun _ _ => .inl (by simp)) harr⟩
      | panic ch => exact ⟨_, a₁, w₁, ⟨f2, st2, φ2, hk, he.trans he2, hr2, ha2, hf.trans hf2⟩, .pass (x := .inLoop c) rfl (fun _ _ => .inl (by simp)) harr⟩
      | outgrown => exact ⟨_, a₁, w₁, ⟨f2, st2, φ2, hk, he.trans he2, hr2, ha2, hf.trans hf2⟩, .pass (x := .inLoop c) rfl (fun _ _ => .inl (by simp)) harr⟩
  obtain ⟨e, a', w', hq, harr⟩ := key k a w ⟨f, st, φ, h0, Ext.refl _, h2, h3, Fr.refl _ _ _⟩
  exact ⟨e, a', w', hq, .of_steps (.one (fenced_calm hb hroom rfl) stepR_loop) harr⟩

/-! ### Operations -/
def yA (ops : Array Oper) (ts : Ts) (j : Nat) : Option (Option Bool) :=
  match (ops[j]?).bind (·.dst) with
  | some d => match ts.get d with
    | .lit (.bool b) => some (some b)
    | .lit (.tuple _) => some none
    | _ => none
  | none => none

/-- Whether an operation is to be done: known, or not. -/
def wantA (ops : Array Oper) (ts : Ts) (o : Oper) : Option Bool :=
  match o.guard with
  | none => some true
  | some (j, b) => match yA ops ts j with
    | some (some c) => some (c == b)
    | some none => some false
    | none => none

theorem yielded_eq {φ : Fi} {f : Fm} {a : Act} (h : ActR φ f a) (ops : Array Oper) {j : Nat} {b : Option Bool} (hy : yA ops f.ts j = some b) : yielded ops a.tmps j = b := by
  unfold yA at hy
  unfold yielded
  cases hd : (ops[j]?).bind (·.dst) with
  | none => simp [hd] at hy
  | some d =>
    simp only [hd] at hy
    have hg := h.ts.get d
    split at hy
    · rename_i c hq
      cases hy
      rw [hq] at hg
      have := hg.lit_inv
      simp only [Option.bind_some]
      cases ht : a.tmps[d]? with
      | none => simp [Array.getD_eq_getD_getElem?, ht] at this
      | some u => simp [Array.getD_eq_getD_getElem?, ht] at this; rw [this]
    · rename_i c hq
      cases hy
      rw [hq] at hg
      have := hg.lit_inv
      simp only [Option.bind_some]
      cases ht : a.tmps[d]? with
      | none => rfl
      | some u => simp [Array.getD_eq_getD_getElem?, ht] at this; rw [this]
    · cases hy

theorem wanted_eq {φ : Fi} {f : Fm} {a : Act} (h : ActR φ f a) (ops : Array Oper) {o : Oper} {b : Bool} (hw : wantA ops f.ts o = some b) : Region.wanted o (yielded ops a.tmps) = b := by
  unfold wantA at hw
  unfold Region.wanted
  split at hw
  · rename_i hg; cases hw; rw [hg]
  · rename_i j c hg
    rw [hg]
    split at hw
    · rename_i d hy
      cases hw
      have := yielded_eq h ops hy
      simp [this]
    · rename_i hy
      cases hw
      have := yielded_eq h ops hy
      simp [this]
    · cases hw

theorem semAt_eq {o : Oper} (h : ∀ c, o.op ≠ .defer c) (ro : Option Nat) (ρ : Operand → Value) : o.semAt ro ρ = execOp ρ o := by
  unfold Oper.semAt
  split
  · rename_i l c hc; exact absurd hc (h c)
  · rfl

theorem OpsW.nil {rd : Option Nat} {ops : Array Oper} {K : Fm → St → Prop} {f : Fm} {st : St} (h : K f st) : OpsW P rd ops [] K f st :=
  fun _ _ _ _ _ _ h2 h3 hQ => hQ _ _ (Lift.here h h2 h3)

theorem OpsW.skip {rd : Option Nat} {ops : Array Oper} {i : Nat} {l : List Nat} {K : Fm → St → Prop} {f : Fm} {st : St} {o : Oper} (ho : ops[i]? = some o) (hw : wantA ops f.ts o = some false)
    (h : OpsW P rd ops l K (f.put o.dst undA) st) : OpsW P rd ops (i :: l) K f st := by
  intro φ w a n Q h1 h2 h3 hQ
  simp only [wpOpsIn, ho]
  rw [wanted_eq h3 ops hw]
  simp only [Bool.false_eq_true, if_false]
  exact ⟨fun _ _ => trivial, h φ w _ n Q h1 h2 (h3.put o.dst (.lit _)) hQ⟩

theorem OpsW.skipE {rd : Option Nat} {ops : Array Oper} {i : Nat} {l : List Nat} {K : Fm → St → Prop} {f : Fm} {st : St} {o : Oper} {r : AV} (ho : ops[i]? = some o) (hw : wantA ops f.ts o = some false) (he : Eqv undA r)
    (h : OpsW P rd ops l K (f.put o.dst r) st) : OpsW P rd ops (i :: l) K f st := by
  intro φ w a n Q h1 h2 h3 hQ
  simp only [wpOpsIn, ho]
  rw [wanted_eq h3 ops hw]
  simp only [Bool.false_eq_true, if_false]
  exact ⟨fun _ _ => trivial, h φ w _ n Q h1 h2 (h3.put o.dst (he _ _ (.lit _))) hQ⟩

/-- An operation that yields a value, in another world perhaps. -/
theorem OpsW.value {rd : Option Nat} {ops : Array Oper} {i : Nat} {l : List Nat} {K : Fm → St → Prop} {f : Fm} {st st' : St} {o : Oper} {r : AV} (ho : ops[i]? = some o) (hw : wantA ops f.ts o = some true) (hd : ∀ c, o.op ≠ .defer c)
    (hrun : ∀ (φ : Fi) (w : World) (a : Act), Rel φ st w → ActR φ f a → ∃ φ' w' u, ((execOp a.eval o).run P w = .ok (.value u) w' ∨ ((execOp a.eval o).run P w = .ok .skip w' ∧ u = undef)) ∧ VR φ' r u ∧ Rel φ' st' w' ∧ Ext φ φ' ∧ Fr φ st w φ' st' w')
    (h : OpsW P rd ops l K (f.put o.dst r) st') : OpsW P rd ops (i :: l) K f st := by
  intro φ w a n Q h1 h2 h3 hQ
  simp only [wpOpsIn, ho]
  rw [wanted_eq h3 ops hw]
  simp only [if_true]
  refine ⟨fun _ _ => trivial, ?_⟩
  rw [semAt_eq hd]
  obtain ⟨φ', w', u, hr, hv, hrel, he, hf⟩ := hrun φ w a h2 h3
  have h4 := h φ' w' (a.put o.dst u) n Q (fun id hi => Nat.lt_of_lt_of_le (h1 id hi) he.n) hrel ((h3.mono he).put o.dst hv) (fun a' w'' hl => hQ a' w'' (hl.trans he hf))
  rw [rdB_ext he h1] at h4
  rcases hr with hr | ⟨hr, rfl⟩
  · rw [hr]; exact h4
  · rw [hr]; exact h4

theorem evG_ne_defer {T : Ti} {h : Hp} {ρ : Operand → AV} {o : Oper} {r : AV} (he : evG T h ρ o = some r) (c : Call) : o.op ≠ .defer c := by
  intro hc; unfold evG at he; simp only [hc] at he; unfold evL at he; simp only [hc] at he; cases he

theorem OpsW.light (hT : TOk P T) {rd : Option Nat} {ops : Array Oper} {i : Nat} {l : List Nat} {K : Fm → St → Prop} {f : Fm} {st : St} {o : Oper} {r : AV} (ho : ops[i]? = some o) (hw : wantA ops f.ts o = some true)
    (hr : evG T st.h (Operand.av f.ts) o = some r) (h : OpsW P rd ops l K (f.put o.dst r) st) : OpsW P rd ops (i :: l) K f st :=
  OpsW.value ho hw (evG_ne_defer hr) (fun φ w a h2 h3 => by
    obtain ⟨u, h4, h5⟩ := evG_ok (P := P) hT h2 (opR_of h3.ts) hr
    exact ⟨φ, w, u, .inl (h5 w (Same.refl _ _ _)), h4, h2, Ext.refl _, Fr.refl _ _ _⟩) h

theorem OpsW.lightE (hT : TOk P T) {rd : Option Nat} {ops : Array Oper} {i : Nat} {l : List Nat} {K : Fm → St → Prop} {f : Fm} {st : St} {o : Oper} {r0 r : AV} (ho : ops[i]? = some o) (hw : wantA ops f.ts o = some true)
    (hr : evG T st.h (Operand.av f.ts) o = some r0) (he : Eqv r0 r) (h : OpsW P rd ops l K (f.put o.dst r) st) : OpsW P rd ops (i :: l) K f st :=
  OpsW.value ho hw (evG_ne_defer hr) (fun φ w a h2 h3 => by
    obtain ⟨u, h4, h5⟩ := evG_ok (P := P) hT h2 (opR_of h3.ts) hr
    exact ⟨φ, w, u, .inl (h5 w (Same.refl _ _ _)), he _ _ h4, h2, Ext.refl _, Fr.refl _ _ _⟩) h

theorem OpsW.fresh (hT : TOk P T) {rd : Option Nat} {ops : Array Oper} {i : Nat} {l : List Nat} {K : Fm → St → Prop} {f : Fm} {st : St} {o : Oper} {r : AV} {cs : List AV} (ho : ops[i]? = some o) (hw : wantA ops f.ts o = some true)
    (hr : evF T st.n (Operand.av f.ts) o = some (r, cs)) (h : OpsW P rd ops l K (f.put o.dst r) (st.push (.cells none false cs))) : OpsW P rd ops (i :: l) K f st :=
  OpsW.value ho hw (fun c hc => by unfold evF at hr; simp only [hc] at hr; cases hr) (fun φ w a h2 h3 => by
    rw [← h2.n] at hr
    obtain ⟨c, t, h4, h5⟩ := evF_ok (P := P) hT (opR_of h3.ts) hr
    obtain ⟨u, h6, h7⟩ := h5 w
    have := h2.push (.cells c t) (.cells none false cs) ⟨w.heap.size, 0, c.size⟩ rfl (ObjR.new (rest := []) h4 c (by simp) t) (fun f hf => by cases hf)
    exact ⟨_, _, u, .inl h6, h7, this.1, φ.push_ext _, this.2⟩) h

def storeO (T : Ti) (st : St) (ρ : Operand → AV) (o : Oper) : Option St :=
  match o.op with
  | .store t p x => storeA T st t (ρ p) (ρ x)
  | _ => none

theorem OpsW.store (hT : TOk P T) {rd : Option Nat} {ops : Array Oper} {i : Nat} {l : List Nat} {K : Fm → St → Prop} {f : Fm} {st st' : St} {o : Oper} (ho : ops[i]? = some o) (hw : wantA ops f.ts o = some true)
    (hr : storeO T st (Operand.av f.ts) o = some st') (h : OpsW P rd ops l K (f.put o.dst undA) st') : OpsW P rd ops (i :: l) K f st := by
  unfold storeO at hr
  split at hr
  · rename_i t p x hx
    refine OpsW.value ho hw (fun c hc => by rw [hx] at hc; cases hc) (fun φ w a h2 h3 => ?_) h
    obtain ⟨w', h4, h5, h6, h7⟩ := store_ok (P := P) hT h2 (opR_of h3.ts p) (opR_of h3.ts x) hr
    exact ⟨φ, w', undef, .inr ⟨by simp [execOp, hx, h4, Result.andThen], rfl⟩, .lit _, h5, Ext.refl _, h6⟩
  · cases hr

def appendO (T : Ti) (st : St) (ρ : Operand → AV) (o : Oper) : Option (AV × St) :=
  match o.op with
  | .call c => match c.callee, c.args.toList, c.argTypes.toList with
    | .builtin .append, [s, x], [t, xt] => appendA T st t xt (ρ s) (ρ x)
    | _, _, _ => none
  | _ => none

theorem OpsW.append (hT : TOk P T) {rd : Option Nat} {ops : Array Oper} {i : Nat} {l : List Nat} {K : Fm → St → Prop} {f : Fm} {st st' : St} {o : Oper} {r : AV} (ho : ops[i]? = some o) (hw : wantA ops f.ts o = some true)
    (hr : appendO T st (Operand.av f.ts) o = some (r, st')) (h : OpsW P rd ops l K (f.put o.dst r) st') : OpsW P rd ops (i :: l) K f st := by
  unfold appendO at hr
  split at hr
  · rename_i c hx
    split at hr
    · rename_i s x t xt hc ha ht
      have ha' : c.args = #[s, x] := by cases hq : c.args; simp_all
      have ht' : c.argTypes = #[t, xt] := by cases hq : c.argTypes; simp_all
      refine OpsW.value ho hw (fun c hc => by rw [hx] at hc; cases hc) (fun φ w a h2 h3 => ?_) h
      obtain ⟨φ', w', v, h4, h5, h6, h7, h8⟩ := append_ok (P := P) (ty := o.type) hT h2 (opR_of h3.ts s) (opR_of h3.ts x) hr
      refine ⟨φ', w', v, .inl ?_, h5, h6, h7, h8⟩
      simp [execOp, hx, resolve, hc, ha', ht', invoke, builtin, h4, Result.andThen]
    · cases hr
  · cases hr

theorem SW.region {rd : Option Nat} {id : Nat} {ops : Array Oper} {Q : Exit → Fm → St → Prop} {f : Fm} {st : St} (h : OpsW P rd ops (List.range ops.size) (fun f st => Q .normal f st) f st) : SW P rd (.region id ops false) Q f st :=
  fun φ w a n h1 h2 h3 => wpIn_region (h φ w a n (Lift φ st w Q) h1 h2 h3 fun _ _ hl => hl)

end Go.Fz
