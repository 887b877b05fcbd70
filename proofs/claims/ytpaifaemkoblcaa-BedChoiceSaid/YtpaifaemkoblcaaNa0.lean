/- Own work of the verifier of watercress: Lb0. -/
import Derived.RangeFuncLeaves
import Derived.RangeFuncRecord
import Derived.OrdersHeld
import Derived.Laws.Sem
import Derived.Laws.World
import Derived.Laws.NewFold
import Derived.Laws.Cells
import Derived.Laws.Small
import Derived.Laws.Entries
import Derived.Laws.StructEq
import Derived.Laws.AppendOwn
import Derived.Laws.CopyRow
set_option linter.unusedVariables false
set_option linter.unusedSimpArgs false
set_option linter.unusedVariables false
set_option linter.unusedSimpArgs false
namespace Go.Fz
inductive AV where
  | any
  | ap (id base n sz i k : Nat)
  | sb (b : Bool)
  | lit (v : Value)
  | ptr (id off : Nat)
  | sl (id off len sz : Nat) (ex : Bool)
  | mp (id : Nat)
  | yld (id : Nat)
  | fn (f : Fn) (first captured : List AV)
  | agg (cs : List AV)
  | tup (vs : List AV)
  | isl (len sz : Nat) (ex : Bool) (g : Nat → Nat → AV)
  | ip (sz k : Nat) (e : Nat → AV)
  deriving Inhabited
def getT : List (Nat × AV) → Nat → AV
  | [], _ => .any
  | (j, a) :: r, i => match Nat.beq j i with
    | true => a
    | false => getT r i
structure Ts where
  len : Nat
  get : Nat → AV
def updT (g : Nat → AV) (d : Nat) (v : AV) (i : Nat) : AV := match Nat.beq d i with
  | true => v
  | false => g i
def Ts.put (ts : Ts) (d : Nat) (v : AV) : Ts := match Nat.blt d ts.len with
  | true => ⟨ts.len, updT ts.get d v⟩
  | false => ts
def numbered : Nat → List AV → List (Nat × AV)
  | _, [] => []
  | k, a :: r => (k, a) :: numbered (k + 1) r
def Ts.of (args : List AV) (n : Nat) : Ts := ⟨max args.length n, getT (numbered 0 args)⟩
structure ALoop where
  state : LoopState
  pending : Option Code
  tmps : Ts
  params : Array Tmp
  assign : Code
  body : Code
  dfid : Nat
inductive AObj where
  | cells (fam : Option Nat) (ro : Bool) (cs : List AV)
  | loop (r : ALoop)
  | dfr
  | map (es : List (AV × AV × Nat)) (clock : Nat)
  | iter (mid since : Nat) (seen : List Nat) (last : Nat)
def AObj.own : AObj → Bool
  | .cells _ ro _ => !ro
  | _ => true
def AObj.fam : AObj → Option Nat
  | .cells f _ _ => f
  | _ => none
def Mates (a b : AObj) : Prop := ∃ f, a.fam = some f ∧ b.fam = some f
abbrev Hp := List (Nat × AObj)
def Hp.get : Hp → Nat → Option AObj
  | [], _ => none
  | (i, o) :: r, id => if i = id then some o else Hp.get r id
def Hp.set : Hp → Nat → AObj → Hp
  | [], _, _ => []
  | (i, o) :: r, id, o' => if i = id then (i, o') :: r else (i, o) :: Hp.set r id o'
structure St where
  h : Hp
  n : Nat
structure Loc where
  b : Nat
  o : Nat
  n : Nat
structure Fi where
  f : Nat → Loc
  n : Nat
  z : Nat → Option (Nat → Option Value)
mutual
inductive VR (φ : Fi) : AV → Value → Prop
  | any (v : Value) : VR φ .any v
  | sb (b : Bool) : VR φ (.sb b) (.bool b)
  | ap (id base n sz i k : Nat) (h : id < φ.n) : VR φ (.ap id base n sz i k) (.pointer (some ⟨(φ.f id).b, (φ.f id).o + (base + i * sz + k), none⟩))
  | isl (len sz : Nat) (ex : Bool) (g : Nat → Nat → AV) (b o cap : Nat) (c : Nat → Option Value) (us : Nat → Nat → Value) (hz : φ.z b = some c) (hc : ∀ i k, i < len → k < sz → c (o + i * sz + k) = some (us i k))
      (h : ∀ i k, i < len → k < sz → VR φ (g i k) (us i k)) (hcap : len ≤ cap) (hex : ex = true → cap = len) : VR φ (.isl len sz ex g) (.slice (some ⟨b, o, none⟩) len cap)
  | isl0 (sz : Nat) (ex : Bool) (g : Nat → Nat → AV) : VR φ (.isl 0 sz ex g) (.slice none 0 0)
  | ip (sz k : Nat) (e : Nat → AV) (b o : Nat) (c : Nat → Option Value) (us : Nat → Value) (hz : φ.z b = some c) (hc : ∀ j, j < sz → c (o + j) = some (us j))
      (h : ∀ j, j < sz → VR φ (e j) (us j)) : VR φ (.ip sz k e) (.pointer (some ⟨b, o + k, none⟩))
  | lit (v : Value) : VR φ (.lit v) v
  | ptr (id off : Nat) (h : id < φ.n) : VR φ (.ptr id off) (.pointer (some ⟨(φ.f id).b, (φ.f id).o + off, none⟩))
  | sl (id off len sz : Nat) (ex : Bool) (cap : Nat) (h : id < φ.n) (hc : len ≤ cap) (he : ex = true → cap = len) (hs : (φ.f id).o + off + cap * sz ≤ (φ.f id).n) :
      VR φ (.sl id off len sz ex) (.slice (some ⟨(φ.f id).b, (φ.f id).o + off, none⟩) len cap)
  | mp (id : Nat) (h : id < φ.n) : VR φ (.mp id) (.map (some (φ.f id).b))
  | yld (id : Nat) (h : id < φ.n) : VR φ (.yld id) (.func (.yield (φ.f id).b) #[] #[])
  | fn (f : Fn) {as0 bs : List AV} {us vs : List Value} (h1 : VRL φ as0 us) (h2 : VRL φ bs vs) : VR φ (.fn f as0 bs) (.func f us.toArray vs.toArray)
  | agg {as0 : List AV} {us : List Value} (h : VRL φ as0 us) : VR φ (.agg as0) (.agg us.toArray)
  | tup {as0 : List AV} {us : List Value} (h : VRL φ as0 us) : VR φ (.tup as0) (.tuple us.toArray)
inductive VRL (φ : Fi) : List AV → List Value → Prop
  | nil : VRL φ [] []
  | cons {a : AV} {u : Value} {as0 : List AV} {us : List Value} (h : VR φ a u) (t : VRL φ as0 us) : VRL φ (a :: as0) (u :: us)
end
structure Ext (φ φ' : Fi) : Prop where
  n : φ.n ≤ φ'.n
  f : ∀ id, id < φ.n → φ'.f id = φ.f id
  z : ∀ b c, φ.z b = some c → φ'.z b = some c
theorem Ext.refl (φ : Fi) : Ext φ φ := ⟨Nat.le_refl _, fun _ _ => rfl, fun _ _ h => h⟩
theorem Ext.trans {a b c : Fi} (h : Ext a b) (k : Ext b c) : Ext a c := ⟨Nat.le_trans h.n k.n, fun id hi => (k.f id (Nat.lt_of_lt_of_le hi h.n)).trans (h.f id hi), fun b c hb => k.z b c (h.z b c hb)⟩
mutual
theorem VR.mono {φ φ' : Fi} (he : Ext φ φ') : {a : AV} → {v : Value} → VR φ a v → VR φ' a v
  | _, _, .any v => .any v
  | _, _, .sb b => .sb b
  | _, _, .ap id base n sz i k h => by
    have h1 := VR.ap (φ := φ') id base n sz i k (Nat.lt_of_lt_of_le h he.n)
    rwa [he.f id h] at h1
  | _, _, .isl len sz ex g b o cap c us hz hc h hcap hex => .isl len sz ex g b o cap c us (he.z b c hz) hc (fun i k hi hk => VR.mono he (h i k hi hk)) hcap hex
  | _, _, .isl0 sz ex g => .isl0 sz ex g
  | _, _, .ip sz k e b o c us hz hc h => .ip sz k e b o c us (he.z b c hz) hc (fun j hj => VR.mono he (h j hj))
  | _, _, .lit v => .lit v
  | _, _, .ptr id off h => by
    have h1 := VR.ptr (φ := φ') id off (Nat.lt_of_lt_of_le h he.n)
    rwa [he.f id h] at h1
  | _, _, .sl id off len sz ex cap h hc hx hs => by
    have h1 := VR.sl (φ := φ') id off len sz ex cap (Nat.lt_of_lt_of_le h he.n) hc hx (by rw [he.f id h]; exact hs)
    rwa [he.f id h] at h1
  | _, _, .mp id h => by
    have h1 := VR.mp (φ := φ') id (Nat.lt_of_lt_of_le h he.n)
    rwa [he.f id h] at h1
  | _, _, .yld id h => by
    have h1 := VR.yld (φ := φ') id (Nat.lt_of_lt_of_le h he.n)
    rwa [he.f id h] at h1
  | _, _, .fn f h1 h2 => .fn f (VRL.mono he h1) (VRL.mono he h2)
  | _, _, .agg h => .agg (VRL.mono he h)
  | _, _, .tup h => .tup (VRL.mono he h)
theorem VRL.mono {φ φ' : Fi} (he : Ext φ φ') : {as0 : List AV} → {us : List Value} → VRL φ as0 us → VRL φ' as0 us
  | _, _, .nil => .nil
  | _, _, .cons h t => .cons (VR.mono he h) (VRL.mono he t)
end
theorem VRL.length {φ : Fi} {as0 : List AV} {us : List Value} (h : VRL φ as0 us) : as0.length = us.length := by
  induction as0 generalizing us with
  | nil => cases h; rfl
  | cons a as0 ih => cases h with | cons h t => simp [ih t]
theorem VRL.get {φ : Fi} {as0 : List AV} {us : List Value} (h : VRL φ as0 us) : ∀ (i : Nat) (a : AV), as0[i]? = some a → ∃ u, us[i]? = some u ∧ VR φ a u := by
  induction as0 generalizing us with
  | nil => intro i a ha; simp at ha
  | cons x as0 ih =>
    cases h with
    | cons h t =>
      intro i a ha
      cases i with
      | zero => simp at ha; subst ha; exact ⟨_, rfl, h⟩
      | succ i => simpa using ih t i a (by simpa using ha)
theorem VRL.of_get {φ : Fi} : ∀ {as0 : List AV} {us : List Value}, as0.length = us.length → (∀ (i : Nat) (a : AV) (u : Value), as0[i]? = some a → us[i]? = some u → VR φ a u) → VRL φ as0 us
  | [], [], _, _ => .nil
  | [], _ :: _, h, _ => by simp at h
  | _ :: _, [], h, _ => by simp at h
  | a :: as0, u :: us, hl, h => .cons (h 0 a u rfl rfl) (VRL.of_get (by simpa using hl) fun i a u ha hu => h (i + 1) a u (by simpa using ha) (by simpa using hu))
theorem VRL.append {φ : Fi} {as0 bs : List AV} {us vs : List Value} (h : VRL φ as0 us) (k : VRL φ bs vs) : VRL φ (as0 ++ bs) (us ++ vs) := by
  induction as0 generalizing us with
  | nil => cases h; exact k
  | cons a as0 ih => cases h with | cons h t => exact .cons h (ih t)
theorem VRL.drop {φ : Fi} {as0 : List AV} {us : List Value} (h : VRL φ as0 us) (n : Nat) : VRL φ (as0.drop n) (us.drop n) := by
  induction n generalizing as0 us with
  | zero => exact h
  | succ n ih => cases h with
    | nil => exact .nil
    | cons h t => exact ih t
theorem VRL.take {φ : Fi} {as0 : List AV} {us : List Value} (h : VRL φ as0 us) (n : Nat) : VRL φ (as0.take n) (us.take n) := by
  induction n generalizing as0 us with
  | zero => exact .nil
  | succ n ih => cases h with
    | nil => exact .nil
    | cons h t => exact .cons h (ih t)
theorem VRL.set {φ : Fi} {as0 : List AV} {us : List Value} {a : AV} {u : Value} (h : VRL φ as0 us) (i : Nat) (ha : VR φ a u) : VRL φ (as0.set i a) (us.set i u) := by
  induction i generalizing as0 us with
  | zero => cases h with
    | nil => exact .nil
    | cons h t => exact .cons ha t
  | succ i ih => cases h with
    | nil => exact .nil
    | cons h t => exact .cons h (ih t)
def AV.cells : AV → List AV
  | .any => []
  | .lit v => v.cells.toList.map .lit
  | .agg cs => cs
  | a => [a]
theorem VRL.lits {φ : Fi} : ∀ (us : List Value), VRL φ (us.map .lit) us
  | [] => .nil
  | u :: us => .cons (.lit u) (VRL.lits us)
theorem VR.cells {φ : Fi} {a : AV} {v : Value} (h : VR φ a v) (hn : 0 < a.cells.length) : VRL φ a.cells v.cells.toList := by
  cases h with
  | any v => exact absurd hn (by simp [AV.cells])
  | sb b => exact .cons (.sb b) .nil
  | ap id base n sz i k h => exact .cons (.ap id base n sz i k h) .nil
  | isl len sz ex g b o cap c us hz hc h hcap hex => exact .cons (.isl len sz ex g b o cap c us hz hc h hcap hex) .nil
  | isl0 sz ex g => exact .cons (.isl0 sz ex g) .nil
  | ip sz k e b o c us hz hc h => exact .cons (.ip sz k e b o c us hz hc h) .nil
  | lit v => exact VRL.lits _
  | agg h => simpa [AV.cells, Value.cells] using h
  | ptr id off h => exact .cons (.ptr id off h) .nil
  | sl id off len sz ex cap h hc he hs => exact .cons (.sl id off len sz ex cap h hc he hs) .nil
  | mp id h => exact .cons (.mp id h) .nil
  | yld id h => exact .cons (.yld id h) .nil
  | fn f h1 h2 => exact .cons (.fn f h1 h2) .nil
  | tup h => exact .cons (.tup h) .nil
def AV.norm : AV → AV
  | .lit (.bool b) => .sb b
  | a => a
theorem VR.norm {φ : Fi} {a : AV} {v : Value} (h : VR φ a v) : VR φ a.norm v := by
  unfold AV.norm
  split
  · cases h; exact .sb _
  · exact h
theorem VRL.norm {φ : Fi} : ∀ {as0 : List AV} {us : List Value}, VRL φ as0 us → VRL φ (as0.map AV.norm) us
  | _, _, .nil => .nil
  | _, _, .cons h t => .cons h.norm t.norm
def AV.one : AV → Bool
  | .lit v => v.oneCell'
  | .agg _ | .tup _ | .any => false
  | _ => true
theorem VR.one {φ : Fi} {a : AV} {v : Value} (h : VR φ a v) (ha : a.one = true) : v.oneCell' = true := by
  cases h <;> simp_all [AV.one, Value.oneCell']
structure TsR (φ : Fi) (ts : Ts) (tmps : Array Value) : Prop where
  size : tmps.size = ts.len
  get : ∀ i, VR φ (ts.get i) (tmps.getD i (.tuple #[]))
theorem TsR.mono {φ φ' : Fi} (he : Ext φ φ') {ts : Ts} {tmps : Array Value} (h : TsR φ ts tmps) : TsR φ' ts tmps := ⟨h.size, fun i => (h.get i).mono he⟩
theorem getT_put (ts : Ts) (d : Nat) (v : AV) (i : Nat) : (ts.put d v).get i = if d < ts.len ∧ d = i then v else ts.get i := by
  unfold Ts.put
  by_cases h : d < ts.len
  · have : Nat.blt d ts.len = true := by simpa [Nat.blt_eq] using h
    rw [this]
    simp only [updT]
    by_cases hi : d = i
    · subst hi; simp [h]
    · have : Nat.beq d i = false := by rw [← Bool.not_eq_true]; exact fun h => hi (Nat.eq_of_beq_eq_true h)
      rw [this]; simp [hi]
  · have : Nat.blt d ts.len = false := by rw [← Bool.not_eq_true, Nat.blt_eq]; exact h
    rw [this]; simp [h]
theorem Ts.ext {a b : Ts} (h : a.len = b.len) (k : ∀ i, a.get i = b.get i) : a = b := by
  cases a; cases b; simp only at h k; subst h; congr 1; exact funext k
theorem Ts.put_len (ts : Ts) (d : Nat) (v : AV) : (ts.put d v).len = ts.len := by unfold Ts.put; split <;> rfl
theorem Ts.put_comm (ts : Ts) {d e : Nat} (h : d ≠ e) (v u : AV) : (ts.put d v).put e u = (ts.put e u).put d v :=
  Ts.ext (by simp only [Ts.put_len]) fun i => by
    simp only [getT_put, Ts.put_len]
    by_cases h1 : d < ts.len ∧ d = i
    · by_cases h2 : e < ts.len ∧ e = i
      · exact absurd (h1.2.trans h2.2.symm) h
      · simp [h1, h2]
    · by_cases h2 : e < ts.len ∧ e = i <;> simp [h1, h2]
theorem TsR.put {φ : Fi} {ts : Ts} {tmps : Array Value} (h : TsR φ ts tmps) (d : Nat) {v : AV} {u : Value} (hv : VR φ v u) : TsR φ (ts.put d v) (tmps.setIfInBounds d u) := by
  refine ⟨by rw [Ts.put_len, Array.size_setIfInBounds]; exact h.size, fun i => ?_⟩
  rw [getT_put]
  have hi := h.get i
  split
  · rename_i hc
    obtain ⟨h1, rfl⟩ := hc
    rw [← h.size] at h1
    simpa [Array.getD_eq_getD_getElem?, Array.getElem?_setIfInBounds, h1] using hv
  · rename_i hc
    by_cases hd : d = i
    · subst hd
      have : ¬ d < tmps.size := fun h2 => hc ⟨by rw [← h.size]; exact h2, rfl⟩
      rw [Array.setIfInBounds_eq_of_size_le (by omega)]; exact hi
    · simpa [Array.getD_eq_getD_getElem?, Array.getElem?_setIfInBounds, hd] using hi
theorem getT_numbered : ∀ (l : List AV) (k i : Nat), getT (numbered k l) i = if k ≤ i ∧ i < k + l.length then l.getD (i - k) .any else .any
  | [], k, i => by simp [numbered, getT]
  | a :: r, k, i => by
    simp only [numbered, getT]
    by_cases hi : k = i
    · subst hi
      have : Nat.beq k k = true := Nat.beq_refl k
      rw [this]; simp
    · have : Nat.beq k i = false := by rw [← Bool.not_eq_true]; exact fun h => hi (Nat.eq_of_beq_eq_true h)
      rw [this]
      simp only [getT_numbered r (k + 1) i, List.length_cons]
      by_cases h1 : k + 1 ≤ i ∧ i < k + 1 + r.length
      · rw [if_pos h1, if_pos (by omega), show i - k = (i - (k + 1)) + 1 from by omega]; rfl
      · rw [if_neg h1, if_neg (by omega)]
theorem TsR.of {φ : Fi} {as0 : List AV} {us : List Value} (h : VRL φ as0 us) (n : Nat) : TsR φ (Ts.of as0 n) (us.toArray ++ Array.replicate (n - us.length) (.tuple #[])) := by
  have hl := h.length
  refine ⟨by simp [Ts.of]; omega, fun i => ?_⟩
  show VR φ (getT (numbered 0 as0) i) _
  rw [getT_numbered]
  split
  · rename_i hi
    have hi' : i < as0.length := by omega
    obtain ⟨u, hu, hr⟩ := h.get i (as0.getD i .any) (by simp [hi'])
    have : (us.toArray ++ Array.replicate (n - us.length) (Value.tuple #[])).getD i (.tuple #[]) = u := by
      rw [Array.getD_eq_getD_getElem?, Array.getElem?_append_left (by simp; omega)]
      simp [hu]
    rw [this, Nat.sub_zero]; exact hr
  · exact .any _
def ObjR (φ : Fi) (w : World) (id : Nat) : AObj → Prop
  | .cells _ ro cs => (∀ (i : Nat) (a : AV), cs[i]? = some a → ∃ v, w.cell? ⟨(φ.f id).b, (φ.f id).o + i, none⟩ = some v ∧ VR φ a v) ∧
      (ro = false → ∃ c t, w.heap[(φ.f id).b]? = some (.cells c t (0, 0)) ∧ c.size = (φ.f id).n ∧ (φ.f id).o + cs.length ≤ (φ.f id).n)
  | .loop r => ∃ L : Loop, w.heap[(φ.f id).b]? = some (.loop L) ∧ L.state = r.state ∧ L.pending = r.pending ∧ TsR φ r.tmps L.tmps ∧ L.params = r.params ∧ L.assign = r.assign ∧ L.body = r.body ∧ r.dfid < φ.n ∧ L.defers = (φ.f r.dfid).b
  | .dfr => w.heap[(φ.f id).b]? = some (.deferred (some []))
  | .map es clock => ∃ ces : Array MapEntry, w.heap[(φ.f id).b]? = some (.map ces clock) ∧ ces.size = es.length ∧
      ∀ (i : Nat) (x : AV × AV × Nat), es[i]? = some x → ∃ e, ces[i]? = some e ∧ VR φ x.1 e.key ∧ VR φ x.2.1 e.val ∧ e.born = x.2.2
  | .iter mid since seen last => w.heap[(φ.f id).b]? = some (.mapIter (some (φ.f mid).b) since seen.toArray last) ∧ (φ.f id).o = 0 ∧ mid < φ.n
structure Rel (φ : Fi) (st : St) (w : World) : Prop where
  n : φ.n = st.n
  lt : ∀ id o, st.h.get id = some o → id < st.n
  blk : ∀ id o, st.h.get id = some o → (φ.f id).b < w.heap.size
  obj : ∀ id o, st.h.get id = some o → ObjR φ w id o
  sep : ∀ i j oi oj, st.h.get i = some oi → st.h.get j = some oj → i ≠ j → oi.own = true →
    (φ.f i).b = (φ.f j).b → Mates oi oj ∧ oj.own = true ∧ (φ.f i).o = (φ.f j).o ∧ (φ.f i).n = (φ.f j).n
  fam : ∀ id o f, st.h.get id = some o → o.fam = some f → f < st.n
  froz : ∀ b c, φ.z b = some c → b < w.heap.size ∧ (∀ i v, c i = some v → w.cell? ⟨b, i, none⟩ = some v) ∧ ∀ id o, st.h.get id = some o → o.own = true → (φ.f id).b ≠ b
theorem Hp.get_set (h : Hp) (id : Nat) (o : AObj) (j : Nat) : (h.set id o).get j = if j = id ∧ (h.get id).isSome then some o else h.get j := by
  induction h with
  | nil => simp [Hp.set, Hp.get]
  | cons p r ih =>
    obtain ⟨i, x⟩ := p
    by_cases hi : i = id
    · subst hi
      by_cases hj : j = i
      · subst hj; simp [Hp.set, Hp.get]
      · simp [Hp.set, Hp.get, hj, Ne.symm hj]
    · by_cases hj : j = id
      · subst hj; simp [Hp.set, Hp.get, hi, ih]
      · by_cases hij : i = j
        · subst hij; simp [Hp.set, Hp.get, hj]
        · simp [Hp.set, Hp.get, hi, hij, ih, hj]
theorem ObjR.same {φ φ' : Fi} {w w' : World} {id : Nat} {o : AObj} (he : Ext φ φ') (hid : id < φ.n) (hb : w'.heap[(φ.f id).b]? = w.heap[(φ.f id).b]?) (h : ObjR φ w id o) : ObjR φ' w' id o := by
  have hf := he.f id hid
  cases o with
  | cells fam ro cs =>
    obtain ⟨h1, h2⟩ := h
    refine ⟨fun i a ha => ?_, fun hro => ?_⟩
    · obtain ⟨v, hv, hr⟩ := h1 i a ha
      refine ⟨v, ?_, hr.mono he⟩
      rw [hf]
      unfold World.cell? at hv ⊢
      simp only at hv ⊢
      rw [hb]; exact hv
    · rw [hf, hb]; exact h2 hro
  | loop r =>
    obtain ⟨L, h1, h2, h3, h4, h5, h6, h7, h8, h9⟩ := h
    exact ⟨L, by rw [hf, hb]; exact h1, h2, h3, h4.mono he, h5, h6, h7, Nat.lt_of_lt_of_le h8 he.n, by rw [he.f _ h8]; exact h9⟩
  | dfr => show _ = _; rw [hf, hb]; exact h
  | map es clock =>
    obtain ⟨ces, h1, h2, h3⟩ := h
    refine ⟨ces, by rw [hf, hb]; exact h1, h2, fun i x hx => ?_⟩
    obtain ⟨e, k1, k2, k3, k4⟩ := h3 i x hx
    exact ⟨e, k1, k2.mono he, k3.mono he, k4⟩
  | iter mid since seen last =>
    obtain ⟨h1, h2, h3⟩ := h
    exact ⟨by rw [hf, hb, he.f _ h3]; exact h1, by rw [hf]; exact h2, Nat.lt_of_lt_of_le h3 he.n⟩
theorem Rel.of_heap {φ : Fi} {st : St} {w w' : World} (hr : Rel φ st w) (h : w'.heap = w.heap) : Rel φ st w' :=
  ⟨hr.n, hr.lt, fun id o ho => by rw [h]; exact hr.blk id o ho, fun id o ho => (hr.obj id o ho).same (Ext.refl _) (by rw [hr.n]; exact hr.lt id o ho) (by rw [h]), hr.sep, hr.fam,
   fun b c hb => by
    obtain ⟨h1, h2, h3⟩ := hr.froz b c hb
    refine ⟨by rw [h]; exact h1, fun i v hv => ?_, h3⟩
    have := h2 i v hv
    unfold World.cell? at this ⊢
    rw [h]; exact this⟩
def Owns (φ : Fi) (st : St) (k : Nat) : Prop := ∃ id o, st.h.get id = some o ∧ o.own = true ∧ (φ.f id).b = k
structure Fr (φ : Fi) (st : St) (w : World) (φ' : Fi) (st' : St) (w' : World) : Prop where
  os : w'.os = w.os
  tape : w'.tape = w.tape
  output : w'.output = w.output
  size : w.heap.size ≤ w'.heap.size
  block : ∀ k, k < w.heap.size → ¬ Owns φ st k → w'.heap[k]? = w.heap[k]?
  own : ∀ k, Owns φ' st' k → Owns φ st k ∨ w.heap.size ≤ k
  zs : ∀ b c, φ'.z b = some c → φ.z b = some c ∨ Owns φ st b ∨ w.heap.size ≤ b
theorem Fr.refl (φ : Fi) (st : St) (w : World) : Fr φ st w φ st w := ⟨rfl, rfl, rfl, Nat.le_refl _, fun _ _ _ => rfl, fun _ h => .inl h, fun _ _ h => .inl h⟩
theorem Fr.trans {φ φ' φ'' : Fi} {st st' st'' : St} {w w' w'' : World} (h : Fr φ st w φ' st' w') (k : Fr φ' st' w' φ'' st'' w'') : Fr φ st w φ'' st'' w'' :=
  ⟨k.os.trans h.os, k.tape.trans h.tape, k.output.trans h.output, Nat.le_trans h.size k.size,
   fun i hi ho => (k.block i (Nat.lt_of_lt_of_le hi h.size) (fun hn => (h.own i hn).elim ho (fun hl => by omega))).trans (h.block i hi ho),
   fun i hi => (k.own i hi).elim (h.own i) (fun hl => .inr (Nat.le_trans h.size hl)),
   fun b c hb => (k.zs b c hb).elim (h.zs b c) fun h2 => h2.elim (fun ho => .inr (h.own b ho)) (fun hl => .inr (.inr (Nat.le_trans h.size hl)))⟩
theorem Fr.froz {φ φ' : Fi} {st st' : St} {w w' : World} (h : Fr φ st w φ' st' w') (hr : Rel φ st w) (hz : φ'.z = φ.z) :
    ∀ b c, φ'.z b = some c → b < w'.heap.size ∧ (∀ i v, c i = some v → w'.cell? ⟨b, i, none⟩ = some v) ∧ ∀ id o, st'.h.get id = some o → o.own = true → (φ'.f id).b ≠ b := fun b c hb => by
  rw [hz] at hb
  obtain ⟨h1, h2, h3⟩ := hr.froz b c hb
  have hn : ¬ Owns φ st b := fun ⟨id, o, ho, hown, hbb⟩ => h3 id o ho hown hbb
  refine ⟨Nat.lt_of_lt_of_le h1 h.size, fun i v hv => ?_, fun id o ho hown hbb => ?_⟩
  · have := h2 i v hv
    have hbl := h.block b h1 hn
    unfold World.cell? at this ⊢
    simp only at this ⊢
    rw [hbl]; exact this
  · rcases h.own b ⟨id, o, ho, hown, hbb⟩ with h4 | h4
    · exact hn h4
    · omega
theorem mkRel {φ φ' : Fi} {st st' : St} {w w' : World} (hr : Rel φ st w) (hz : φ'.z = φ.z) (hn : φ'.n = st'.n) (hlt : ∀ id o, st'.h.get id = some o → id < st'.n) (hblk : ∀ id o, st'.h.get id = some o → (φ'.f id).b < w'.heap.size)
    (hobj : ∀ id o, st'.h.get id = some o → ObjR φ' w' id o)
    (hsep : ∀ i j oi oj, st'.h.get i = some oi → st'.h.get j = some oj → i ≠ j → oi.own = true → (φ'.f i).b = (φ'.f j).b → Mates oi oj ∧ oj.own = true ∧ (φ'.f i).o = (φ'.f j).o ∧ (φ'.f i).n = (φ'.f j).n)
    (hfam : ∀ id o f, st'.h.get id = some o → o.fam = some f → f < st'.n) (hf : Fr φ st w φ' st' w') : Rel φ' st' w' ∧ Fr φ st w φ' st' w' :=
  ⟨⟨hn, hlt, hblk, hobj, hsep, hfam, hf.froz hr hz⟩, hf⟩
def Fi.push (φ : Fi) (l : Loc) : Fi := ⟨fun i => if i = φ.n then l else φ.f i, φ.n + 1, φ.z⟩
def St.push (st : St) (o : AObj) : St := ⟨(st.n, o) :: st.h, st.n + 1⟩
theorem Fi.push_ext (φ : Fi) (l : Loc) : Ext φ (φ.push l) := ⟨by simp [Fi.push], fun id hi => by simp [Fi.push, Nat.ne_of_lt hi], fun _ _ h => h⟩
theorem Fi.push_new (φ : Fi) (l : Loc) : (φ.push l).f φ.n = l := by simp [Fi.push]
theorem Fi.push_n (φ : Fi) (l : Loc) : (φ.push l).n = φ.n + 1 := rfl
theorem St.get_push (st : St) (o : AObj) (j : Nat) : (st.push o).h.get j = if st.n = j then some o else st.h.get j := rfl
theorem alloc_heap_old (w : World) (o : Obj) (k : Nat) (h : k < w.heap.size) : (w.alloc o).heap[k]? = w.heap[k]? := by
  show (w.heap.push o)[k]? = _
  rw [Array.getElem?_push, if_neg (by omega)]
theorem alloc_heap_new' (w : World) (o : Obj) : (w.alloc o).heap[w.heap.size]? = some o := by
  show (w.heap.push o)[w.heap.size]? = some o
  simp
theorem alloc_size (w : World) (o : Obj) : (w.alloc o).heap.size = w.heap.size + 1 := by
  show (w.heap.push o).size = _
  simp
theorem Rel.push {φ : Fi} {st : St} {w : World} (hr : Rel φ st w) (o : Obj) (a : AObj) (l : Loc) (hl : l.b = w.heap.size) (hobj : ObjR (φ.push l) (w.alloc o) φ.n a) (hfm : ∀ f, a.fam = some f → f < st.n) :
    Rel (φ.push l) (st.push a) (w.alloc o) ∧ Fr φ st w (φ.push l) (st.push a) (w.alloc o) := by
  have hold : ∀ id x, st.h.get id = some x → id < φ.n ∧ (φ.push l).f id = φ.f id := fun id x hx => by
    have h1 := hr.lt id x hx
    rw [← hr.n] at h1
    exact ⟨h1, (φ.push_ext l).f id h1⟩
  refine mkRel hr rfl (by simp [Fi.push, St.push, hr.n]) (fun id x hx => ?_) (fun id x hx => ?_) (fun id x hx => ?_) (fun i j oi oj hi hj hij ho => ?_) (fun id x f hx hxf => ?_) ⟨rfl, rfl, rfl, by rw [alloc_size]; omega, fun k hk _ => alloc_heap_old w o k hk, fun k hk => ?_, fun _ _ h => .inl h⟩
  · rw [St.get_push] at hx
    split at hx
    · show _ < st.n + 1; omega
    · show _ < st.n + 1; have := hr.lt id x hx; omega
  · rw [alloc_size]
    rw [St.get_push] at hx
    split at hx
    · rename_i h; rw [← hr.n] at h; subst h; rw [Fi.push_new, hl]; omega
    · rw [(hold id x hx).2]; have := hr.blk id x hx; omega
  · rw [St.get_push] at hx
    split at hx
    · rename_i h; rw [← hr.n] at h; subst h; cases hx; exact hobj
    · exact (hr.obj id x hx).same (φ.push_ext l) (hold id x hx).1 (alloc_heap_old w o _ (hr.blk id x hx))
  · rw [St.get_push] at hi hj
    split at hi
    · rename_i h1
      rw [← hr.n] at h1; subst h1
      split at hj
      · rename_i h2; rw [← hr.n] at h2; exact absurd h2 hij
      · intro hb
        rw [Fi.push_new, (hold j oj hj).2, hl] at hb
        have := hr.blk j oj hj; omega
    · split at hj
      · rename_i h2
        rw [← hr.n] at h2; subst h2
        intro hb
        rw [Fi.push_new, (hold i oi hi).2, hl] at hb
        have := hr.blk i oi hi; omega
      · rw [(hold i oi hi).2, (hold j oj hj).2]
        exact hr.sep i j oi oj hi hj hij ho
  · rw [St.get_push] at hx
    split at hx
    · cases hx; have := hfm f hxf; show _ < st.n + 1; omega
    · have := hr.fam id x f hx hxf; show _ < st.n + 1; omega
  · obtain ⟨id, x, hx, ho, hb⟩ := hk
    rw [St.get_push] at hx
    split at hx
    · rename_i h; rw [← hr.n] at h; subst h; rw [Fi.push_new, hl] at hb; right; omega
    · left; exact ⟨id, x, hx, ho, by rw [← (hold id x hx).2]; exact hb⟩
theorem ObjR.new {φ : Fi} {w : World} {cs : List AV} {us rest : List Value} (h : VRL φ cs us) (c : Array Value) (hc : c.toList = us ++ rest) (t : TypeId) :
    ObjR (φ.push ⟨w.heap.size, 0, c.size⟩) (w.alloc (.cells c t)) φ.n (.cells none false cs) := by
  refine ⟨fun i a ha => ?_, fun _ => ⟨c, t, ?_, by rw [Fi.push_new], ?_⟩⟩
  · obtain ⟨u, hu, hr⟩ := h.get i a ha
    refine ⟨u, ?_, hr.mono (φ.push_ext _)⟩
    rw [Fi.push_new]
    unfold World.cell?
    simp only [alloc_heap_new']
    have : c[i]? = some u := by
      rw [← Array.getElem?_toList, hc, List.getElem?_append_left ((List.getElem?_eq_some_iff.1 hu).1)]
      exact hu
    simpa using this
  · rw [Fi.push_new]; exact alloc_heap_new' w _
  · rw [Fi.push_new]
    have h1 := h.length
    have h2 : c.size = us.length + rest.length := by rw [← Array.length_toList, hc, List.length_append]
    simp only
    omega
theorem Rel.turn {φ : Fi} {st : St} {w w' : World} (hr : Rel φ st w) {id : Nat} {o o' : AObj} (ho : st.h.get id = some o) (hown : o.own = true) (hfam : o.fam = none) (hfam' : o'.fam = none)
    (hos : w'.os = w.os) (htape : w'.tape = w.tape) (hout : w'.output = w.output) (hsize : w'.heap.size = w.heap.size) (hblock : ∀ k, k ≠ (φ.f id).b → w'.heap[k]? = w.heap[k]?) (hobj : ObjR φ w' id o') :
    Rel φ ⟨st.h.set id o', st.n⟩ w' ∧ Fr φ st w φ ⟨st.h.set id o', st.n⟩ w' := by
  have hother : ∀ j x, st.h.get j = some x → j ≠ id → (φ.f j).b ≠ (φ.f id).b := fun j x hx hj hb => by
    obtain ⟨⟨f, hf, _⟩, _⟩ := hr.sep id j o x ho hx (Ne.symm hj) hown hb.symm
    rw [hfam] at hf; cases hf
  have hget : ∀ j x, (st.h.set id o').get j = some x → (j = id ∧ x = o') ∨ (j ≠ id ∧ st.h.get j = some x) := fun j x hx => by
    rw [Hp.get_set] at hx
    by_cases hj : j = id
    · subst hj; left; simpa [ho, eq_comm] using hx
    · right; simpa [hj] using hx
  refine mkRel hr rfl hr.n (fun j x hx => ?_) (fun j x hx => ?_) (fun j x hx => ?_) (fun i j oi oj hi hj hij hio => ?_) (fun j x f hx hxf => ?_) ⟨hos, htape, hout, by omega, fun k hk hn => hblock k (fun hb => hn ⟨id, o, ho, hown, hb.symm⟩), fun k hk => ?_, fun _ _ h => .inl h⟩
  · rcases hget j x hx with ⟨rfl, rfl⟩ | ⟨_, h⟩
    · exact hr.lt j o ho
    · exact hr.lt j x h
  · rw [hsize]
    rcases hget j x hx with ⟨rfl, rfl⟩ | ⟨_, h⟩
    · exact hr.blk j o ho
    · exact hr.blk j x h
  · rcases hget j x hx with ⟨rfl, rfl⟩ | ⟨hj, h⟩
    · exact hobj
    · exact (hr.obj j x h).same (Ext.refl _) (by rw [hr.n]; exact hr.lt j x h) (hblock _ (hother j x h hj))
  · intro hb
    rcases hget i oi hi with ⟨rfl, rfl⟩ | ⟨hi', h1⟩
    · rcases hget j oj hj with ⟨rfl, rfl⟩ | ⟨hj', h2⟩
      · exact absurd rfl hij
      · exact absurd hb.symm (hother j oj h2 hj')
    · rcases hget j oj hj with ⟨rfl, rfl⟩ | ⟨hj', h2⟩
      · exact absurd hb (hother i oi h1 hi')
      · exact hr.sep i j oi oj h1 h2 hij hio hb
  · rcases hget j x hx with ⟨rfl, rfl⟩ | ⟨_, h⟩
    · rw [hfam'] at hxf; cases hxf
    · exact hr.fam j x f h hxf
  · obtain ⟨j, x, hx, hxo, hb⟩ := hk
    left
    rcases hget j x hx with ⟨rfl, rfl⟩ | ⟨_, h⟩
    · exact ⟨j, o, ho, hown, hb⟩
    · exact ⟨j, x, h, hxo, hb⟩
end Go.Fz
namespace Go.Fz
structure TI where
  desc : TypeDesc
  size : Nat
  bytes : Nat
  zero : List Value
  flat : Bool := false
def Ti := TypeId → Option TI
structure TOk1 (P : Program) (t : TypeId) (i : TI) : Prop where
  und : P.underlying t = some i.desc
  info : ∃ ti z, P.info? t = some ti ∧ ti.size = i.size ∧ ti.bytes = i.bytes ∧ ti.zero = some z ∧ z.cells.toList = i.zero
  flat : i.flat = true → P.stoodInHeld t = false ∧ P.eqGuardType P.depth t = false
def TOk (P : Program) (T : Ti) : Prop := ∀ t i, T t = some i → TOk1 P t i
def aggD : TypeDesc → Bool
  | .struct _ | .array _ _ => true
  | _ => false
def IntKind.lo : IntKind → Int
  | .i8 => -128 | .i16 => -32768 | .i32 => -2147483648 | .i64 => -9223372036854775808 | _ => 0
def IntKind.hi : IntKind → Int
  | .i8 => 127 | .i16 => 32767 | .i32 => 2147483647 | .i64 => 9223372036854775807
  | .u8 => 255 | .u16 => 65535 | .u32 => 4294967295 | .u64 => 18446744073709551615
def wrp (k : IntKind) (n : Int) : Int := if IntKind.lo k ≤ n ∧ n ≤ IntKind.hi k then n else k.wrap n
theorem wrap_in (k : IntKind) (n : Int) (h : IntKind.lo k ≤ n ∧ n ≤ IntKind.hi k) : k.wrap n = n := by
  cases k <;> simp only [IntKind.lo, IntKind.hi] at h <;> simp only [IntKind.wrap, IntKind.bits, IntKind.signed] <;> simp <;> omega
theorem wrp_eq (k : IntKind) (n : Int) : wrp k n = k.wrap n := by
  unfold wrp; split
  · rename_i h; exact (wrap_in k n h).symm
  · rfl
theorem wrp_in {k : IntKind} {n : Int} (h1 : IntKind.lo k ≤ n) (h2 : n ≤ IntKind.hi k) : wrp k n = n := if_pos ⟨h1, h2⟩
def ofV : Value → AV
  | .agg cs => .agg (cs.toList.map .lit)
  | .func f a b => if a.size = 0 ∧ b.size = 0 then .fn f [] [] else .lit (.func f a b)
  | v => .lit v
theorem ofV_ok (φ : Fi) (v : Value) : VR φ (ofV v) v := by
  cases v <;> simp only [ofV] <;> first | exact .lit _ | skip
  · split
    · rename_i f a b h
      have ha : a = #[] := Array.eq_empty_of_size_eq_zero h.1
      have hb : b = #[] := Array.eq_empty_of_size_eq_zero h.2
      subst ha; subst hb
      exact .fn f .nil .nil
    · exact .lit _
  · rename_i cs
    exact .agg (us := cs.toList) (VRL.lits _)
def undA : AV := .lit (.tuple #[])
def Operand.av (ts : Ts) : Operand → AV
  | .tmp t => ts.get t
  | .const v => ofV v
  | .global g => .lit (.pointer (some ⟨g, 0, none⟩))
  | .func f => .fn (.func f) [] []
def OpR (φ : Fi) (ρa : Operand → AV) (ρ : Operand → Value) : Prop := ∀ x, VR φ (ρa x) (ρ x)
theorem opR_of {φ : Fi} {ts : Ts} {a : Act} (h : TsR φ ts a.tmps) : OpR φ (Operand.av ts) a.eval := by
  intro x
  cases x with
  | tmp t => exact h.get t
  | const v => exact ofV_ok φ v
  | global g => exact .lit _
  | func f => exact .fn _ .nil .nil
theorem VR.lit_inv {φ : Fi} {v u : Value} (h : VR φ (.lit v) u) : u = v := by cases h; rfl
theorem VR.ptr_inv {φ : Fi} {id off : Nat} {u : Value} (h : VR φ (.ptr id off) u) : u = .pointer (some ⟨(φ.f id).b, (φ.f id).o + off, none⟩) ∧ id < φ.n := by cases h; exact ⟨rfl, by assumption⟩
theorem VR.sl_inv {φ : Fi} {id off len sz : Nat} {ex : Bool} {u : Value} (h : VR φ (.sl id off len sz ex) u) :
    ∃ cap, u = .slice (some ⟨(φ.f id).b, (φ.f id).o + off, none⟩) len cap ∧ id < φ.n ∧ len ≤ cap ∧ (ex = true → cap = len) ∧ (φ.f id).o + off + cap * sz ≤ (φ.f id).n := by
  cases h; exact ⟨_, rfl, by assumption, by assumption, by assumption, by assumption⟩
theorem VR.agg_inv {φ : Fi} {cs : List AV} {u : Value} (h : VR φ (.agg cs) u) : ∃ us : List Value, u = .agg us.toArray ∧ VRL φ cs us := by cases h with | agg h => exact ⟨_, rfl, h⟩
theorem VR.tup_inv {φ : Fi} {cs : List AV} {u : Value} (h : VR φ (.tup cs) u) : ∃ us : List Value, u = .tuple us.toArray ∧ VRL φ cs us := by cases h with | tup h => exact ⟨_, rfl, h⟩
theorem VR.fn_inv {φ : Fi} {f : Fn} {as0 bs : List AV} {u : Value} (h : VR φ (.fn f as0 bs) u) : ∃ us vs : List Value, u = .func f us.toArray vs.toArray ∧ VRL φ as0 us ∧ VRL φ bs vs := by
  cases h with | fn f h1 h2 => exact ⟨_, _, rfl, h1, h2⟩
theorem VR.mp_inv {φ : Fi} {id : Nat} {u : Value} (h : VR φ (.mp id) u) : u = .map (some (φ.f id).b) ∧ id < φ.n := by cases h; exact ⟨rfl, by assumption⟩
theorem VR.sb_inv {φ : Fi} {b : Bool} {u : Value} (h : VR φ (.sb b) u) : u = .bool b := by cases h; rfl
def ptrOf : AV → Option (Nat × Nat)
  | .ptr id off => some (id, off)
  | .ap id base _ sz i k => some (id, base + i * sz + k)
  | _ => none
theorem ptrOf_ok {φ : Fi} {a : AV} {u : Value} {id off : Nat} (h : ptrOf a = some (id, off)) (hv : VR φ a u) : VR φ (.ptr id off) u := by
  unfold ptrOf at h
  split at h
  · cases h; exact hv
  · cases h
    cases hv with
    | ap id base n sz i k hid => exact .ptr id _ hid
  · cases h
theorem VR.isl_inv {φ : Fi} {len sz : Nat} {g : Nat → Nat → AV} {u : Value} {ex : Bool} (h : VR φ (.isl len sz ex g) u) : (len = 0 ∧ u = .slice none 0 0) ∨
    ∃ (b o cap : Nat) (c : Nat → Option Value) (us : Nat → Nat → Value), u = .slice (some ⟨b, o, none⟩) len cap ∧ φ.z b = some c ∧ (∀ i k, i < len → k < sz → c (o + i * sz + k) = some (us i k)) ∧ (∀ i k, i < len → k < sz → VR φ (g i k) (us i k)) ∧ len ≤ cap ∧ (ex = true → cap = len) := by
  cases h with
  | isl _ _ _ _ b o cap c us hz hc h hcap hex => exact .inr ⟨b, o, cap, c, us, rfl, hz, hc, h, hcap, hex⟩
  | isl0 => exact .inl ⟨rfl, rfl⟩
theorem VR.ip_inv {φ : Fi} {sz k : Nat} {e : Nat → AV} {u : Value} (h : VR φ (.ip sz k e) u) :
    ∃ (b o : Nat) (c : Nat → Option Value) (us : Nat → Value), u = .pointer (some ⟨b, o + k, none⟩) ∧ φ.z b = some c ∧ (∀ j, j < sz → c (o + j) = some (us j)) ∧ ∀ j, j < sz → VR φ (e j) (us j) := by
  cases h with
  | ip _ _ _ b o c us hz hc h => exact ⟨b, o, c, us, rfl, hz, hc, h⟩
theorem VR.yld_inv {φ : Fi} {id : Nat} {u : Value} (h : VR φ (.yld id) u) : u = .func (.yield (φ.f id).b) #[] #[] ∧ id < φ.n := by cases h; exact ⟨rfl, by assumption⟩
def Eqv (a b : AV) : Prop := ∀ (φ : Fi) (u : Value), VR φ a u → VR φ b u
theorem Eqv.refl (a : AV) : Eqv a a := fun _ _ h => h
theorem Eqv.of {a b : AV} (h : a = b) : Eqv a b := by subst h; exact Eqv.refl a
def partA (T : Ti) (t : TypeId) (cs : List AV) (off : Nat) : Option AV :=
  match T t with
  | some i => if aggD i.desc then (if off + i.size ≤ cs.length then some (.agg ((cs.drop off).take i.size)) else none) else cs[off]?
  | none => none
def cellsAt (h : Hp) (id : Nat) : Option (List AV) :=
  match h.get id with
  | some (.cells _ _ cs) => some cs
  | _ => none
def cellsFrom (e : Nat → AV) : Nat → Nat → List AV
  | _, 0 => []
  | k, n + 1 => e k :: cellsFrom e (k + 1) n
theorem cellsFrom_get (e : Nat → AV) : ∀ (n k j : Nat), (cellsFrom e k n)[j]? = if j < n then some (e (k + j)) else none
  | 0, k, j => by simp [cellsFrom]
  | n + 1, k, 0 => by simp [cellsFrom]
  | n + 1, k, j + 1 => by simp [cellsFrom, cellsFrom_get e n (k + 1) j, Nat.add_assoc, Nat.add_comm 1 j]
theorem cellsFrom_length (e : Nat → AV) : ∀ (n k : Nat), (cellsFrom e k n).length = n
  | 0, k => rfl
  | n + 1, k => by simp [cellsFrom, cellsFrom_length e n (k + 1)]
def loadA (T : Ti) (h : Hp) (t : TypeId) : AV → Option AV
  | .ip sz k e =>
    match T t with
    | some i => if aggD i.desc then (if k + i.size ≤ sz then some (.agg (cellsFrom e k i.size)) else none) else if k < sz then some (e k) else none
    | none => none
  | a => match ptrOf a with
    | some (id, off) => match cellsAt h id with
      | some cs => partA T t cs off
      | none => none
    | none => none
def intCmpB (op : BinOp) (x y : Int) : Option Bool :=
  match op with
  | .eql => some (x == y)
  | .neq => some (x != y)
  | .lss => some (decide (x < y))
  | .leq => some (decide (x ≤ y))
  | .gtr => some (decide (x > y))
  | .geq => some (decide (x ≥ y))
  | _ => none
def bitsA (op : BinOp) (k : IntKind) (x y : Int) : Option Int :=
  match op with
  | .and => some (k.wrap (BitVec.ofInt k.bits x &&& BitVec.ofInt k.bits y).toNat)
  | .or => some (k.wrap (BitVec.ofInt k.bits x ||| BitVec.ofInt k.bits y).toNat)
  | .xor => some (k.wrap (BitVec.ofInt k.bits x ^^^ BitVec.ofInt k.bits y).toNat)
  | .andNot => some (k.wrap (BitVec.ofInt k.bits x &&& ~~~ BitVec.ofInt k.bits y).toNat)
  | _ => none
def binA (op : BinOp) (a b : AV) : Option AV :=
  match a, b with
  | .lit (.int k x), .lit (.int k' y) =>
    match op with
    | .shl => if 0 ≤ y then some (.lit (.int k (wrp k (x * 2 ^ (min y.toNat k.bits))))) else none
    | .shr => if 0 ≤ y then some (.lit (.int k (x.fdiv (2 ^ (min y.toNat k.bits))))) else none
    | .add => if k = k' then some (.lit (.int k (wrp k (x + y)))) else none
    | .sub => if k = k' then some (.lit (.int k (wrp k (x - y)))) else none
    | .mul => if k = k' then some (.lit (.int k (wrp k (x * y)))) else none
    | .quo => if k = k' ∧ y ≠ 0 then some (.lit (.int k (wrp k (x.tdiv y)))) else none
    | .rem => if k = k' ∧ y ≠ 0 then some (.lit (.int k (x.tmod y))) else none
    | .and => if k = k' then (bitsA .and k x y).map fun n => .lit (.int k n) else none
    | .or => if k = k' then (bitsA .or k x y).map fun n => .lit (.int k n) else none
    | .xor => if k = k' then (bitsA .xor k x y).map fun n => .lit (.int k n) else none
    | .andNot => if k = k' then (bitsA .andNot k x y).map fun n => .lit (.int k n) else none
    | op => if k = k' then (intCmpB op x y).map fun b => .sb b else none
  | _, _ => none
theorem bin_ok {P : Program} {φ : Fi} {op : BinOp} {a b : AV} {u v : Value} {r : AV} (t : TypeId) (x y : Operand) (ha : VR φ a u) (hb : VR φ b v) (h : binA op a b = some r) :
    ∃ z, VR φ r z ∧ ∀ w, (do eqGuard op t x y u v; binOp op t u v : Sem Value).run P w = .ok z w := by
  unfold binA at h
  split at h
  · rename_i k m k' n
    cases ha; cases hb
    have hg : ∀ w, (eqGuard op t x y (.int k m) (.int k' n)).run P w = .ok () w := fun w => by
      unfold eqGuard
      split <;> simp
    have key : ∀ z : Value, (∀ w, (binOp op t (.int k m) (.int k' n)).run P w = .ok z w) → VR φ r z →
        ∃ z, VR φ r z ∧ ∀ w, (do eqGuard op t x y (.int k m) (.int k' n); binOp op t (.int k m) (.int k' n) : Sem Value).run P w = .ok z w := fun z hz hr =>
      ⟨z, hr, fun w => by simp [Sem.run_bind, hg, Result.andThen, hz]⟩
    cases op <;> simp only at h
    case shl =>
      split at h
      · rename_i hy; cases h
        exact key _ (by simp [binOp, Op.shift, show ¬ n < 0 from by omega, wrp_eq]) (.lit _)
      · cases h
    case shr =>
      split at h
      · rename_i hy; cases h
        exact key _ (by simp [binOp, Op.shift, show ¬ n < 0 from by omega]) (.lit _)
      · cases h
    case quo =>
      split at h
      · rename_i hk; obtain ⟨rfl, hy⟩ := hk; cases h
        exact key _ (by simp [binOp, Op.intDiv, hy, wrp_eq]) (.lit _)
      · cases h
    case rem =>
      split at h
      · rename_i hk; obtain ⟨rfl, hy⟩ := hk; cases h
        exact key _ (by simp [binOp, Op.intDiv, hy]) (.lit _)
      · cases h
    case eql | neq | lss | leq | gtr | geq =>
      split at h
      · rename_i hk; subst hk
        simp only [intCmpB, Option.map_some, Option.some.injEq] at h
        exact key _ (by simp [binOp, Op.intCmp]; rfl) (by rw [← h]; exact .sb _)
      · cases h
    all_goals
      split at h
      · rename_i hk; subst hk
        simp only [bitsA, Option.map_some, Option.some.injEq] at h
        subst h
        exact (fun hv hz => key _ hz hv) (.lit _) (by simp [binOp, Op.intArith, Op.intBits, wrp_eq])
      · cases h
  · cases h
def evL (T : Ti) (h : Hp) (ρ : Operand → AV) (o : Oper) : Option AV :=
  match o.op with
  | .move x | .assign x => some (ρ x)
  | .pick c a b => match ρ c with
    | .lit (.bool t) => some (if t then ρ a else ρ b)
    | _ => none
  | .load t a => loadA T h t (ρ a)
  | .fieldAddr s x f => match ρ x, T s with
    | .ap id base n sz i k, some ti => match ti.desc with
      | .struct fs => match fs[f]? with
        | some fd => match T fd.type with
          | some j => if j.size = 0 then none else some (.ap id base n sz i (k + fd.offset))
          | none => none
        | none => none
      | _ => none
    | .ip sz k e, some i => match i.desc with
      | .struct fs => match fs[f]? with
        | some fd => match T fd.type with
          | some j => if j.size = 0 then none else some (.ip sz (k + fd.offset) e)
          | none => none
        | none => none
      | _ => none
    | .ptr id off, some i => match i.desc with
      | .struct fs => match fs[f]? with
        | some fd => match T fd.type with
          | some j => if j.size = 0 then none else some (.ptr id (off + fd.offset))
          | none => none
        | none => none
      | _ => none
    | _, _ => none
  | .field s x f => match ρ x, T s with
    | .agg cs, some i => match i.desc with
      | .struct fs => match fs[f]? with
        | some fd => partA T fd.type cs fd.offset
        | none => none
      | _ => none
    | _, _ => none
  | .indexAddr t x ix => match ρ ix, T t with
    | .lit (.int _ n), some i => match i.desc, ρ x with
      | .array len e, .ptr id off => match T e with
        | some j => if 0 ≤ n ∧ n < len then some (.ap id off len j.size n.toNat 0) else none
        | none => none
      | .slice e, .sl id off len sz _ => match T e with
        | some j => if 0 ≤ n ∧ n < len ∧ j.size = sz then some (.ptr id (off + n.toNat * sz)) else none
        | none => none
      | .slice e, .isl len sz _ g => match T e with
        | some j => if 0 ≤ n ∧ n < len ∧ j.size = sz then some (.ip sz 0 (g n.toNat)) else none
        | none => none
      | _, _ => none
    | _, _ => none
  | .index t x ix => match ρ ix, T t, ρ x with
    | .lit (.int _ n), some i, .agg cs => match i.desc with
      | .array len e => match T e with
        | some j => if 0 ≤ n ∧ n < len then partA T e cs (n.toNat * j.size) else none
        | none => none
      | _ => none
    | _, _, _ => none
  | .binOp op _ x y _ => binA op (ρ x) (ρ y)
  | .unOp op _ x => match op, ρ x with
    | .not, .lit (.bool b) => some (.lit (.bool !b))
    | .not, .sb b => some (.sb !b)
    | .neg, .lit (.int k n) => some (.lit (.int k (wrp k (0 - n))))
    | _, _ => none
  | .convert s d x => match T s, T d, ρ x with
    | some _, some j, .lit (.int _ n) => match j.desc with
      | .int k => some (.lit (.int k (wrp k n)))
      | _ => none
    | _, _, _ => none
  | .extract x i => match ρ x with
    | .tup vs => vs[i]?
    | _ => none
  | .makeFunc f a b => some (.fn f (a.toList.map ρ) (b.toList.map ρ))
  | .call c => match c.callee with
    | .builtin .len => match c.args.toList, c.argTypes.toList with
      | [x], [t] => match T t, ρ x with
        | some i, .sl _ _ n _ _ => match i.desc with
          | .slice _ => some (.lit (.int .i64 n))
          | _ => none
        | some i, .lit (.slice _ n _) => match i.desc with
          | .slice _ => some (.lit (.int .i64 n))
          | _ => none
        | some i, .isl n _ _ _ => match i.desc with
          | .slice _ => some (.lit (.int .i64 n))
          | _ => none
        | some i, _ => match i.desc with
          | .array n _ => some (.lit (.int .i64 n))
          | _ => none
        | _, _ => none
      | _, _ => none
    | .builtin .min => match c.args.toList with
      | [x, y] => match ρ x, ρ y with
        | .lit (.int k a), .lit (.int _ b) => some (.lit (.int k (if b < a then b else a)))
        | _, _ => none
      | _ => none
    | .builtin .max => match c.args.toList with
      | [x, y] => match ρ x, ρ y with
        | .lit (.int k a), .lit (.int _ b) => some (.lit (.int k (if b > a then b else a)))
        | _, _ => none
      | _ => none
    | _ => none
  | _ => none
structure Same (φ : Fi) (h : Hp) (w w' : World) : Prop where
  obj : ∀ id o, h.get id = some o → w'.heap[(φ.f id).b]? = w.heap[(φ.f id).b]?
  froz : ∀ b c, φ.z b = some c → w'.heap[b]? = w.heap[b]?
theorem Same.refl (φ : Fi) (h : Hp) (w : World) : Same φ h w w := ⟨fun _ _ _ => rfl, fun _ _ _ => rfl⟩
theorem cell_of_block {w w' : World} {a : Addr} (h : w'.heap[a.block]? = w.heap[a.block]?) : w'.cell? a = w.cell? a := by
  unfold World.cell?; rw [h]
section
variable {P : Program} {T : Ti}
theorem run_und (hT : TOk P T) {t : TypeId} {i : TI} (h : T t = some i) (w : World) : (underlying t).run P w = .ok i.desc w := by
  simp [underlying, Sem.run_bind, program, Sem.run, Result.andThen, (hT t i h).und]
theorem run_size (hT : TOk P T) {t : TypeId} {i : TI} (h : T t = some i) (w : World) : (sizeOf t).run P w = .ok i.size w := by
  obtain ⟨ti, z, h1, h2, _⟩ := (hT t i h).info
  simp [sizeOf, typeInfo, Sem.run_bind, program, Sem.run, Result.andThen, h1, h2]
theorem run_agg (hT : TOk P T) {t : TypeId} {i : TI} (h : T t = some i) (w : World) : (isAgg t).run P w = .ok (aggD i.desc) w := by
  unfold isAgg
  simp only [Sem.run_bind, run_und hT h, Result.andThen]
  cases i.desc <;> rfl
theorem run_zero (hT : TOk P T) {t : TypeId} {i : TI} (h : T t = some i) (w : World) : ∃ z, (zeroValue t).run P w = .ok z w ∧ z.cells.toList = i.zero := by
  obtain ⟨ti, z, h1, _, _, h2, h3⟩ := (hT t i h).info
  exact ⟨z, by simp [zeroValue, typeInfo, Sem.run_bind, program, Sem.run, Result.andThen, h1, h2], h3⟩
theorem part_ok (hT : TOk P T) {φ : Fi} {t : TypeId} {as0 : List AV} {us : List Value} {off : Nat} {r : AV} (h : VRL φ as0 us) (hp : partA T t as0 off = some r) :
    ∃ v, VR φ r v ∧ ∀ w : World, (part t us.toArray off).run P w = .ok v w := by
  unfold partA at hp
  split at hp
  · rename_i i hi
    split at hp
    · rename_i ha
      split at hp
      · cases hp
        refine ⟨_, .agg ((h.drop off).take i.size), fun w => ?_⟩
        simp only [part, Sem.run_bind, run_agg hT hi, Result.andThen, ha, if_true, run_size hT hi, Sem.run_pure]
        congr 2
        rw [List.extract_toArray, List.extract_eq_take_drop]
        simp
      · cases hp
    · rename_i ha
      obtain ⟨u, hu, hr⟩ := h.get off r hp
      refine ⟨u, hr, fun w => ?_⟩
      simp [part, Sem.run_bind, run_agg hT hi, Result.andThen, ha, hu]
  · cases hp
theorem load_ok (hT : TOk P T) {φ : Fi} {st : St} {w : World} {t : TypeId} {a : AV} {v : Value} {r : AV} (hr : Rel φ st w) (ha : VR φ a v) (h : loadA T st.h t a = some r) :
    ∃ u, VR φ r u ∧ ∀ w', Same φ st.h w w' → (Instr.loadAt t v).run P w' = .ok u w' := by
  unfold loadA at h
  split at h
  · rename_i sz k e
    split at h
    · rename_i i hi
      obtain ⟨b, o, c, us, rfl, hz, hc, hus⟩ := ha.ip_inv
      have hcell : ∀ w', Same φ st.h w w' → ∀ j, j < sz → w'.cell? ⟨b, o + j, none⟩ = some (us j) := fun w' hw j hj => by
        rw [cell_of_block (w := w) (a := ⟨b, o + j, none⟩) (hw.froz b c hz)]
        exact (hr.froz b c hz).2.1 _ _ (hc j hj)
      split at h
      · rename_i hag
        split at h
        · rename_i hlen
          cases h
          refine ⟨.agg ((List.range i.size).map fun j => us (k + j)).toArray, .agg (VRL.of_get (by simp [cellsFrom_length]) fun j a u h1 h2 => ?_), fun w' hw => ?_⟩
          · rw [cellsFrom_get] at h1
            split at h1
            · rename_i hj
              cases h1
              have : u = us (k + j) := by simp [hj] at h2; exact h2.symm
              subst this
              exact hus _ (by omega)
            · cases h1
          · have hl := run_loadCells (P := P) w' ⟨b, o + k, none⟩ i.size (fun j => us (k + j)) (fun j hj => by
              have := hcell w' hw (k + j) (by omega)
              rw [← this]
              unfold Addr.add; split
              · rename_i h0; simp [h0]
              · simp [Nat.add_assoc])
            simp only [Instr.loadAt, loadVar, Sem.run_bind, Instr.sureAddr, Sem.run_pure, Result.andThen, run_agg hT hi, hag, if_true, run_size hT hi, hl]
        · cases h
      · rename_i hag
        split at h
        · rename_i hk
          cases h
          refine ⟨us k, hus k hk, fun w' hw => ?_⟩
          have h3 := hcell w' hw k hk
          simp [Instr.loadAt, loadVar, Sem.run_bind, Instr.sureAddr, Result.andThen, run_agg hT hi, hag, load, Sem.run, h3]
        · cases h
    · cases h
  · rename_i a' hne
    split at h
    rotate_left
    · cases h
    rename_i id off hpt
    replace ha := ptrOf_ok hpt ha
    split at h
    · rename_i cs hcs
      obtain ⟨f, ro, ho⟩ : ∃ f ro, st.h.get id = some (.cells f ro cs) := by
        unfold cellsAt at hcs
        split at hcs
        · cases hcs; exact ⟨_, _, by assumption⟩
        · cases hcs
      have hobj := (hr.obj id _ ho).1
      cases ha with
      | ptr _ _ hid =>
        unfold partA at h
        split at h
        · rename_i i hi
          split at h
          · rename_i hag
            split at h
            · rename_i hlen
              cases h
              have hex : ∀ j, j < i.size → ∃ u, w.cell? ⟨(φ.f id).b, (φ.f id).o + off + j, none⟩ = some u ∧ ∀ a, cs[off + j]? = some a → VR φ a u := fun j hj => by
                obtain ⟨u, h1, h2⟩ := hobj (off + j) _ (List.getElem?_eq_getElem (by omega))
                exact ⟨u, by rw [Nat.add_assoc]; exact h1, fun a ha => by rw [List.getElem?_eq_getElem (by omega)] at ha; cases ha; exact h2⟩
              let g : Nat → Value := fun j => if hj : j < i.size then (hex j hj).choose else undef
              have hg : ∀ j, j < i.size → w.cell? ⟨(φ.f id).b, (φ.f id).o + off + j, none⟩ = some (g j) ∧ ∀ a, cs[off + j]? = some a → VR φ a (g j) := fun j hj => by
                simp only [g, hj, dif_pos]; exact (hex j hj).choose_spec
              refine ⟨.agg ((List.range i.size).map g).toArray, .agg (VRL.of_get (by simp; omega) fun j a u h1 h2 => ?_), fun w' hw => ?_⟩
              · have hj : j < i.size := by
                  rcases Nat.lt_or_ge j i.size with h | h
                  · exact h
                  · simp [h] at h2
                have : u = g j := by simp [hj] at h2; exact h2.symm
                subst this
                refine (hg j hj).2 a ?_
                rw [List.getElem?_take] at h1
                simpa [hj] using h1
              · have hl := run_loadCells (P := P) w' ⟨(φ.f id).b, (φ.f id).o + off, none⟩ i.size g (fun j hj => by
                  have := (hg j hj).1
                  rw [← this]
                  refine Eq.trans ?_ (cell_of_block (w := w) (w' := w') (a := ⟨(φ.f id).b, (φ.f id).o + off + j, none⟩) (hw.obj id _ ho))
                  unfold Addr.add; split <;> simp_all)
                simp only [Instr.loadAt, loadVar, Sem.run_bind, Instr.sureAddr, Sem.run_pure, Result.andThen, run_agg hT hi, hag, if_true, run_size hT hi, hl]
            · cases h
          · rename_i hag
            obtain ⟨u, h1, h2⟩ := hobj off r h
            refine ⟨u, h2, fun w' hw => ?_⟩
            have h3 : w'.cell? ⟨(φ.f id).b, (φ.f id).o + off, none⟩ = some u := (cell_of_block (w := w) (a := ⟨(φ.f id).b, (φ.f id).o + off, none⟩) (hw.obj id _ ho)).trans h1
            simp [Instr.loadAt, loadVar, Sem.run_bind, Instr.sureAddr, Result.andThen, run_agg hT hi, hag, load, Sem.run, h3]
        · cases h
    · cases h
theorem evL_ok (hT : TOk P T) {φ : Fi} {st : St} {w : World} {ρa : Operand → AV} {ρ : Operand → Value} {o : Oper} {r : AV} (hr : Rel φ st w) (hρ : OpR φ ρa ρ) (h : evL T st.h ρa o = some r) :
    ∃ u, VR φ r u ∧ ∀ w', Same φ st.h w w' → (execOp ρ o).run P w' = .ok (.value u) w' := by
  unfold evL at h
  split at h
  ·
    rename_i x hx
    cases h
    exact ⟨ρ x, hρ x, fun w' _ => by simp [execOp, hx]⟩
  · rename_i x hx
    cases h
    exact ⟨ρ x, hρ x, fun w' _ => by simp [execOp, hx]⟩
  ·
    rename_i c a b hx
    split at h
    · rename_i t hc
      cases h
      have h1 := hρ c
      rw [hc] at h1
      have h2 : ρ c = .bool t := h1.lit_inv
      exact ⟨if t then ρ a else ρ b, by cases t; exact hρ b; exact hρ a, fun w' _ => by simp [execOp, hx, h2, asBool]⟩
    · cases h
  ·
    rename_i t a hx
    obtain ⟨u, h1, h2⟩ := load_ok (P := P) hT hr (hρ a) h
    exact ⟨u, h1, fun w' hw => by simp [execOp, hx, h2 w' hw, Result.andThen]⟩
  ·
    rename_i s x f hx
    split at h
    · rename_i id base n sz i k ti hp hs
      split at h
      · rename_i fs hd
        split at h
        · rename_i fd hf
          split at h
          · rename_i j hj
            split at h
            · cases h
            · rename_i hz
              cases h
              have h1 := hρ x
              rw [hp] at h1
              have h2 := ptrOf_ok (id := id) (off := base + i * sz + k) rfl h1
              have h3 := h2.ptr_inv
              refine ⟨_, .ap id base n sz i (k + fd.offset) h3.2, fun w' _ => ?_⟩
              have ha : (Addr.add ⟨(φ.f id).b, (φ.f id).o + (base + i * sz + k), none⟩ fd.offset) = ⟨(φ.f id).b, (φ.f id).o + (base + i * sz + (k + fd.offset)), none⟩ := by
                unfold Addr.add; split
                · rename_i h0; simp [h0]
                · simp [Nat.add_assoc]
              simp [execOp, hx, Instr.fieldAt, Sem.run_bind, run_und hT hs, hd, Result.andThen, hf, h3.1, Instr.sureAddr, fieldPlace, run_size hT hj, hz, ha]
          · cases h
        · cases h
      · cases h
    · rename_i sz k e i hp hs
      split at h
      · rename_i fs hd
        split at h
        · rename_i fd hf
          split at h
          · rename_i j hj
            split at h
            · cases h
            · rename_i hz
              cases h
              have h1 := hρ x
              rw [hp] at h1
              obtain ⟨b, o, c, us, h3, hzz, hc, hus⟩ := h1.ip_inv
              refine ⟨_, .ip sz (k + fd.offset) e b o c us hzz hc hus, fun w' _ => ?_⟩
              have ha : (Addr.add ⟨b, o + k, none⟩ fd.offset) = ⟨b, o + (k + fd.offset), none⟩ := by
                unfold Addr.add; split
                · rename_i h0; simp [h0]
                · simp [Nat.add_assoc]
              simp [execOp, hx, Instr.fieldAt, Sem.run_bind, run_und hT hs, hd, Result.andThen, hf, h3, Instr.sureAddr, fieldPlace, run_size hT hj, hz, ha]
          · cases h
        · cases h
      · cases h
    · rename_i id off i hp hs
      split at h
      · rename_i fs hd
        split at h
        · rename_i fd hf
          split at h
          · rename_i j hj
            split at h
            · cases h
            · rename_i hz
              cases h
              have h1 := hρ x
              rw [hp] at h1
              have h3 := h1.ptr_inv
              refine ⟨_, .ptr id (off + fd.offset) h3.2, fun w' _ => ?_⟩
              have ha : (Addr.add ⟨(φ.f id).b, (φ.f id).o + off, none⟩ fd.offset) = ⟨(φ.f id).b, (φ.f id).o + (off + fd.offset), none⟩ := by
                unfold Addr.add; split
                · rename_i h0; simp [h0]
                · simp [Nat.add_assoc]
              simp [execOp, hx, Instr.fieldAt, Sem.run_bind, run_und hT hs, hd, Result.andThen, hf, h3.1, Instr.sureAddr, fieldPlace, run_size hT hj, hz, ha]
          · cases h
        · cases h
      · cases h
    · cases h
  ·
    rename_i s x f hx
    split at h
    · rename_i cs i hp hs
      split at h
      · rename_i fs hd
        split at h
        · rename_i fd hf
          have h1 := hρ x
          rw [hp] at h1
          obtain ⟨us, h3, h4⟩ := h1.agg_inv
          obtain ⟨u, h5, h6⟩ := part_ok (P := P) hT h4 h
          refine ⟨u, h5, fun w' _ => ?_⟩
          simp [execOp, hx, Instr.field, Sem.run_bind, run_und hT hs, hd, Result.andThen, hf, h3, asAgg, h6]
        · cases h
      · cases h
    · cases h
  ·
    rename_i t x ix hx
    split at h
    · rename_i k n i hp hs
      have hn : ρ ix = .int k n := by have := hρ ix; rw [hp] at this; exact this.lit_inv
      split at h
      · rename_i len e id off hd hq
        split at h
        · rename_i j hj
          split at h
          · rename_i hb
            cases h
            have h1 := hρ x
            rw [hq] at h1
            have h3 := h1.ptr_inv
            refine ⟨_, .ap id off len j.size n.toNat 0 h3.2, fun w' _ => ?_⟩
            have ha : (Addr.add ⟨(φ.f id).b, (φ.f id).o + off, none⟩ (n.toNat * j.size)) = ⟨(φ.f id).b, (φ.f id).o + (off + n.toNat * j.size), none⟩ := by
              unfold Addr.add; split
              · rename_i h0; simp [h0]
              · simp [Nat.add_assoc]
            simp [execOp, hx, Instr.indexAt, Sem.run_bind, run_und hT hs, hd, Result.andThen, hn, asIntOf, h3.1, Instr.sureAddr, run_size hT hj, hb, ha]
          · cases h
        · cases h
      · rename_i e id off len sz ex hd hq
        split at h
        · rename_i j hj
          split at h
          · rename_i hb
            cases h
            have h1 := hρ x
            rw [hq] at h1
            obtain ⟨cap, h3, h4, _⟩ := h1.sl_inv
            refine ⟨_, .ptr id (off + n.toNat * sz) h4, fun w' _ => ?_⟩
            have ha : (Addr.add ⟨(φ.f id).b, (φ.f id).o + off, none⟩ (n.toNat * sz)) = ⟨(φ.f id).b, (φ.f id).o + (off + n.toNat * sz), none⟩ := by
              unfold Addr.add; split
              · rename_i h0; simp [h0]
              · simp [Nat.add_assoc]
            obtain ⟨b1, b2, b3⟩ := hb
            simp [execOp, hx, Instr.indexAt, Sem.run_bind, run_und hT hs, hd, Result.andThen, hn, asIntOf, h3, run_size hT hj, b1, b2, b3, ha]
          · cases h
        · cases h
      · rename_i e len sz ex g hd hq
        split at h
        · rename_i j hj
          split at h
          · rename_i hb
            cases h
            obtain ⟨b1, b2, b3⟩ := hb
            have h1 := hρ x
            rw [hq] at h1
            rcases h1.isl_inv with ⟨rfl, _⟩ | ⟨b, o, cap, c, us, h3, hzz, hc, hus, _⟩
            · omega
            have hnl : n.toNat < len := by omega
            have hv := VR.ip sz 0 (g n.toNat) b (o + n.toNat * sz) c (us n.toNat) hzz (fun k hk => hc _ _ hnl hk) (fun k hk => hus _ _ hnl hk)
            refine ⟨_, hv, fun w' _ => ?_⟩
            have ha : (Addr.add ⟨b, o, none⟩ (n.toNat * sz)) = ⟨b, o + n.toNat * sz, none⟩ := by
              unfold Addr.add; split
              · rename_i h0; simp [h0]
              · rfl
            simp [execOp, hx, Instr.indexAt, Sem.run_bind, run_und hT hs, hd, Result.andThen, hn, asIntOf, h3, run_size hT hj, b1, b2, b3, ha]
          · cases h
        · cases h
      · cases h
    · cases h
  ·
    rename_i t x ix hx
    split at h
    · rename_i k n i cs hp hs hq
      have hn : ρ ix = .int k n := by have := hρ ix; rw [hp] at this; exact this.lit_inv
      split at h
      · rename_i len e hd
        split at h
        · rename_i j hj
          split at h
          · rename_i hb
            have h1 := hρ x
            rw [hq] at h1
            obtain ⟨us, h3, h4⟩ := h1.agg_inv
            obtain ⟨u, h5, h6⟩ := part_ok (P := P) hT h4 h
            refine ⟨u, h5, fun w' _ => ?_⟩
            simp [execOp, hx, Instr.index, Sem.run_bind, run_und hT hs, hd, Result.andThen, hn, asIntOf, h3, run_size hT hj, hb, h6]
          · cases h
        · cases h
      · cases h
    · cases h
  ·
    rename_i op t x y yt hx
    obtain ⟨u, h1, h2⟩ := bin_ok (P := P) t x y (hρ x) (hρ y) h
    refine ⟨u, h1, fun w' _ => ?_⟩
    simp only [execOp, hx]
    show Sem.run P (do let z ← (do eqGuard op t x y (ρ x) (ρ y); binOp op t (ρ x) (ρ y)); pure (Next.value z)) w' = _
    rw [Sem.run_bind, h2 w']
    rfl
  ·
    rename_i op t x hx
    split at h
    · rename_i b hq
      cases h
      have h2 : ρ x = .bool b := by have := hρ x; rw [hq] at this; exact this.lit_inv
      exact ⟨.bool !b, .lit _, fun w' _ => by simp [execOp, hx, h2, Op.unary]⟩
    · rename_i b hq
      cases h
      have h2 : ρ x = .bool b := by have := hρ x; rw [hq] at this; exact this.sb_inv
      exact ⟨.bool !b, .sb _, fun w' _ => by simp [execOp, hx, h2, Op.unary]⟩
    · rename_i k n hq
      cases h
      have h2 : ρ x = .int k n := by have := hρ x; rw [hq] at this; exact this.lit_inv
      exact ⟨_, .lit _, fun w' _ => by simp [execOp, hx, h2, Op.unary, Op.intArith, wrp_eq]⟩
    · cases h
  ·
    rename_i s d x hx
    split at h
    · rename_i i j k n hs hd hq
      split at h
      · rename_i k' hk
        cases h
        have h2 : ρ x = .int k n := by have := hρ x; rw [hq] at this; exact this.lit_inv
        refine ⟨_, .lit _, fun w' _ => ?_⟩
        simp [execOp, hx, h2, convert, Sem.run_bind, run_und hT hs, run_und hT hd, Result.andThen, hk, Conv.intToInt, wrp_eq]
      · cases h
    · cases h
  ·
    rename_i x i hx
    split at h
    · rename_i vs hq
      have h1 := hρ x
      rw [hq] at h1
      obtain ⟨us, h3, h4⟩ := h1.tup_inv
      obtain ⟨u, h5, h6⟩ := h4.get i r h
      exact ⟨u, h6, fun w' _ => by simp [execOp, hx, h3, Instr.extract, h5]⟩
    · cases h
  ·
    rename_i f a b hx
    cases h
    have hl : ∀ l : List Operand, VRL φ (l.map ρa) (l.map ρ) := fun l => by
      induction l with
      | nil => exact .nil
      | cons x l ih => exact .cons (hρ x) ih
    refine ⟨_, .fn f (hl a.toList) (hl b.toList), fun w' _ => ?_⟩
    simp only [execOp, hx, Instr.makeFunc, Sem.run_bind, Sem.run_pure, Result.andThen]
    congr 3 <;> (rw [← Array.toList_map])
  ·
    rename_i c hx
    split at h
    ·
      rename_i hc
      split at h
      · rename_i x t hca hct
        have ha : c.args = #[x] := by cases hq : c.args; simp_all
        have ht : c.argTypes = #[t] := by cases hq : c.argTypes; simp_all
        split at h
        · rename_i i id off n sz ex hi hq
          split at h
          · rename_i e hd
            cases h
            have h1 := hρ x
            rw [hq] at h1
            obtain ⟨cap, h3, _⟩ := h1.sl_inv
            exact ⟨_, .lit _, fun w' _ => by simp [execOp, hx, resolve, hc, ha, ht, invoke, builtin, Builtin.len_, h3, run_und hT hi, hd, Result.andThen, goInt]⟩
          · cases h
        · rename_i i a n cap hi hq
          split at h
          · rename_i e hd
            cases h
            have h3 : ρ x = .slice a n cap := by have := hρ x; rw [hq] at this; exact this.lit_inv
            exact ⟨_, .lit _, fun w' _ => by simp [execOp, hx, resolve, hc, ha, ht, invoke, builtin, Builtin.len_, h3, run_und hT hi, hd, Result.andThen, goInt]⟩
          · cases h
        · rename_i i n sz ex g hi hq
          split at h
          · rename_i e hd
            cases h
            have h3 : ∃ a cap, ρ x = .slice a n cap := by
              have h1 := hρ x
              rw [hq] at h1
              rcases h1.isl_inv with ⟨rfl, h2⟩ | ⟨b, o, cap, c, us, h2, _⟩
              · exact ⟨_, _, h2⟩
              · exact ⟨_, _, h2⟩
            obtain ⟨a, cap, h3⟩ := h3
            exact ⟨_, .lit _, fun w' _ => by simp [execOp, hx, resolve, hc, ha, ht, invoke, builtin, Builtin.len_, h3, run_und hT hi, hd, Result.andThen, goInt]⟩
          · cases h
        · rename_i i _ hi _ _ _
          split at h
          · rename_i n e hd
            cases h
            exact ⟨_, .lit _, fun w' _ => by simp [execOp, hx, resolve, hc, ha, ht, invoke, builtin, Builtin.len_, run_und hT hi, hd, Result.andThen, goInt]⟩
          · cases h
        · cases h
      · cases h
    ·
      rename_i hc
      split at h
      · rename_i x y hca
        have ha : c.args = #[x, y] := by cases hq : c.args; simp_all
        split at h
        · rename_i k m k' n hp hq
          cases h
          have h2 : ρ x = .int k m := by have := hρ x; rw [hp] at this; exact this.lit_inv
          have h3 : ρ y = .int k' n := by have := hρ y; rw [hq] at this; exact this.lit_inv
          exact ⟨_, .lit _, fun w' _ => by simp [execOp, hx, resolve, hc, ha, invoke, builtin, Builtin.min_, Builtin.min2, h2, h3]⟩
        · cases h
      · cases h
    · rename_i hc
      split at h
      · rename_i x y hca
        have ha : c.args = #[x, y] := by cases hq : c.args; simp_all
        split at h
        · rename_i k m k' n hp hq
          cases h
          have h2 : ρ x = .int k m := by have := hρ x; rw [hp] at this; exact this.lit_inv
          have h3 : ρ y = .int k' n := by have := hρ y; rw [hq] at this; exact this.lit_inv
          exact ⟨_, .lit _, fun w' _ => by simp [execOp, hx, resolve, hc, ha, invoke, builtin, Builtin.max_, Builtin.max2, h2, h3]⟩
        · cases h
      · cases h
    · cases h
  · cases h
end
end Go.Fz
namespace Go.Fz
def setsL {α : Type} : List α → Nat → List α → List α
  | cs, _, [] => cs
  | cs, off, x :: xs => setsL (cs.set off x) (off + 1) xs
theorem setsL_length {α : Type} : ∀ (xs cs : List α) (off : Nat), (setsL cs off xs).length = cs.length
  | [], _, _ => rfl
  | x :: xs, cs, off => by simp [setsL, setsL_length xs]
theorem VRL.sets {φ : Fi} : ∀ {xs : List AV} {vs : List Value} {cs : List AV} {us : List Value} (off : Nat), VRL φ xs vs → VRL φ cs us → VRL φ (setsL cs off xs) (setsL us off vs)
  | [], _, _, _, _, h, k => by cases h; exact k
  | _ :: _, _, _, _, off, h, k => by
    cases h with | cons h t => exact VRL.sets (off + 1) t (k.set off h)
def fillA (place : Nat → Option (Nat × Nat)) (cells : List AV) : List (Nat × AV) → Option (List AV)
  | [] => some cells
  | (i, v) :: rest =>
    match place i with
    | none => none
    | some (off, size) =>
      if v.cells.length = 0 ∨ v.cells.length ≠ size ∨ off + v.cells.length > cells.length then none
      else fillA place (setsL cells off v.cells) rest
theorem fold_sets (off : Nat) : ∀ (xs us : List Value) (k : Nat), ((xs.zipIdx k).foldl (fun (cs : Array Value) (p : Value × Nat) => cs.setIfInBounds (off + p.2) p.1) us.toArray) = (setsL us (off + k) xs).toArray
  | [], us, k => by simp [setsL]
  | x :: xs, us, k => by
    simp only [List.zipIdx_cons, List.foldl_cons, setsL]
    rw [List.setIfInBounds_toArray]
    exact fold_sets off xs (us.set (off + k) x) (k + 1)
theorem fill_ok {φ : Fi} {place : Nat → Option (Nat × Nat)} {ρa : Operand → AV} {ρ : Operand → Value} (hρ : OpR φ ρa ρ) : ∀ (parts : List (Nat × Operand)) {cells : List AV} {us : List Value} {r : List AV}, VRL φ cells us →
    fillA place cells (parts.map fun p => (p.1, ρa p.2)) = some r → ∃ rs : List Value, Instr.fill place us.toArray (parts.map fun p => (p.1, ρ p.2)) = some rs.toArray ∧ VRL φ r rs
  | [], _, us, _, hc, h => by simp only [List.map_nil, fillA, Option.some.injEq] at h; subst h; exact ⟨us, rfl, hc⟩
  | (i, x) :: rest, cells, us, r, hc, h => by
    simp only [List.map_cons, fillA] at h
    split at h
    · cases h
    · rename_i off size hp
      split at h
      · cases h
      · rename_i hn
        have hn0 : 0 < (ρa x).cells.length := by omega
        have hv := (hρ x).cells hn0
        have hl := hv.length
        have hl2 := hc.length
        have h1 : (ρ x).cells.size = (ρa x).cells.length := by rw [hl]; simp
        obtain ⟨rs, h2, h3⟩ := fill_ok hρ rest (hv.sets off hc) h
        refine ⟨rs, ?_, h3⟩
        simp only [List.map_cons, Instr.fill, hp]
        have hcond : ((ρ x).cells.size ≠ size || off + (ρ x).cells.size > us.toArray.size) = false := by
          rw [not_or, not_or] at hn
          replace hn := hn.2
          rw [h1]
          simp only [List.size_toArray, ne_eq, Bool.or_eq_false_iff, decide_eq_false_iff_not]
          exact ⟨hn.1, by have := hn.2; omega⟩
        simp only [ne_eq, Bool.or_eq_true, decide_eq_true_eq] at hcond ⊢
        rw [if_neg (by simpa using hcond)]
        rw [← h2]
        congr 1
        rw [← Array.foldl_toList, Array.toList_zipIdx]
        exact fold_sets off _ us 0
def zerosA (i : TI) (n : Nat) : List AV := (List.range n).map fun k => .lit (i.zero[k % i.zero.length]!)
def evF (T : Ti) (n : Nat) (ρ : Operand → AV) (o : Oper) : Option (AV × List AV) :=
  match o.op with
  | .alloc e => match T e with
    | some i => some (.ptr n 0, (i.zero.map .lit).map AV.norm)
    | none => none
  | .box _ x => if (ρ x).cells.length = 0 then none else some (.ptr n 0, (ρ x).cells.map AV.norm)
  | .buildSlice t len parts => match T t with
    | some i => match i.desc with
      | .slice e => match T e with
        | some j =>
          if j.size = 0 ∨ len * j.size > 16777216 ∨ j.zero.length ≠ j.size then none else
          match fillA (fun k => some (k * j.size, j.size)) (zerosA j (len * j.size)) (parts.toList.map fun p => (p.1, ρ p.2)) with
          | some cs => some (.sl n 0 len j.size true, cs)
          | none => none
        | none => none
      | _ => none
    | none => none
  | .makeSlice t l c => match T t, ρ l, ρ c with
    | some i, .lit (.int .i64 a), .lit (.int .i64 b) => match i.desc with
      | .slice e => match T e with
        | some j => if 0 ≤ a ∧ a ≤ b ∧ b ≤ 65536 ∧ j.bytes ≤ 65536 ∧ j.size ≠ 0 ∧ j.zero.length = j.size then some (.sl n 0 a.toNat j.size (a == b), zerosA j (b.toNat * j.size)) else none
        | none => none
      | _ => none
    | _, _, _ => none
  | _ => none
section
variable {P : Program} {T : Ti}
theorem zeros_ok (φ : Fi) {j : TI} {z : Value} (hz : z.cells.toList = j.zero) (n : Nat) : VRL φ (zerosA j n) ((List.range n).map fun k => z.cells[k % z.cells.size]!) := by
  unfold zerosA
  have hs : z.cells.size = j.zero.length := by rw [← hz]; simp
  refine VRL.of_get (by simp) fun i a u ha hu => ?_
  simp only [List.getElem?_map] at ha hu
  cases hr : (List.range n)[i]? with
  | none => simp [hr] at ha
  | some k =>
    simp only [hr, Option.map_some, Option.some.injEq] at ha hu
    subst ha; subst hu
    have : z.cells[k % z.cells.size]! = j.zero[k % j.zero.length]! := by
      rw [hs, ← hz]
      simp [getElem!_def]
    rw [this]; exact .lit _
theorem range_map {α : Type} (f : Nat → α) (n : Nat) : Array.map f (Array.range n) = ((List.range n).map f).toArray := by
  apply Array.ext'
  simp
theorem run_newRow (e : TypeId) (c : Array Value) (w : World) : (newRow e c).run P w = .ok ⟨w.heap.size, 0, none⟩ (w.alloc (.cells c e)) := rfl
theorem evF_ok (hT : TOk P T) {φ : Fi} {ρa : Operand → AV} {ρ : Operand → Value} {o : Oper} {a : AV} {cs : List AV} (hρ : OpR φ ρa ρ) (h : evF T φ.n ρa o = some (a, cs)) :
    ∃ (c : Array Value) (t : TypeId), VRL φ cs c.toList ∧ ∀ w : World, ∃ u, (execOp ρ o).run P w = .ok (.value u) (w.alloc (.cells c t)) ∧ VR (φ.push ⟨w.heap.size, 0, c.size⟩) a u := by
  have hptr : ∀ (w : World) (c : Array Value), VR (φ.push ⟨w.heap.size, 0, c.size⟩) (.ptr φ.n 0) (.pointer (some ⟨w.heap.size, 0, none⟩)) := fun w c => by
    have := VR.ptr (φ := φ.push ⟨w.heap.size, 0, c.size⟩) φ.n 0 (by simp [Fi.push])
    rwa [Fi.push_new] at this
  have hsl : ∀ (w : World) (c : Array Value) (len cap sz : Nat) (ex : Bool), len ≤ cap → (ex = true → cap = len) → cap * sz ≤ c.size → VR (φ.push ⟨w.heap.size, 0, c.size⟩) (.sl φ.n 0 len sz ex) (.slice (some ⟨w.heap.size, 0, none⟩) len cap) := fun w c len cap sz ex h1 h2 h3 => by
    have := VR.sl (φ := φ.push ⟨w.heap.size, 0, c.size⟩) φ.n 0 len sz ex cap (by simp [Fi.push]) h1 h2 (by rw [Fi.push_new]; simpa using h3)
    rwa [Fi.push_new] at this
  unfold evF at h
  split at h
  · rename_i e hx
    split at h
    · rename_i i hi
      cases h
      obtain ⟨z, hz, hz2⟩ := run_zero (P := P) hT hi default
      have hzw : ∀ w : World, (zeroValue e).run P w = .ok z w := fun w => by
        obtain ⟨z', h1, _⟩ := run_zero (P := P) hT hi w
        have h2 := (hT e i hi).info
        obtain ⟨ti, z2, h3, _, _, h4, _⟩ := h2
        have h5 : ∀ w : World, (zeroValue e).run P w = .ok z2 w := fun w => by simp [zeroValue, typeInfo, Sem.run_bind, program, Sem.run, Result.andThen, h3, h4]
        rw [h5 default] at hz
        injection hz with hz _
        rw [h5 w, hz]
      refine ⟨z.cells, e, by rw [hz2]; exact (VRL.lits _).norm, fun w => ⟨_, ?_, hptr w _⟩⟩
      simp only [execOp, hx, Instr.alloc, Sem.run_bind, hzw, Result.andThen, newVar, run_newRow, Sem.run_pure]
    · cases h
  · rename_i e x hx
    split at h
    · cases h
    rename_i hne
    cases h
    refine ⟨(ρ x).cells, e, ((hρ x).cells (by omega)).norm, fun w => ⟨_, ?_, hptr w _⟩⟩
    simp only [execOp, hx, Instr.box, Sem.run_bind, Result.andThen, newVar, run_newRow, Sem.run_pure]
  · rename_i t len parts hx
    split at h
    · rename_i i hi
      split at h
      · rename_i e hd
        split at h
        · rename_i j hj
          split at h
          · cases h
          · rename_i hn
            rw [not_or, not_or] at hn
            split at h
            · rename_i cs' hf
              cases h
              obtain ⟨z, hz, hz2⟩ : ∃ z, (∀ w : World, (zeroValue e).run P w = .ok z w) ∧ z.cells.toList = j.zero := by
                obtain ⟨ti, z2, h3, _, _, h4, h5⟩ := (hT e j hj).info
                exact ⟨z2, fun w => by simp [zeroValue, typeInfo, Sem.run_bind, program, Sem.run, Result.andThen, h3, h4], h5⟩
              obtain ⟨rs, h1, h2⟩ := fill_ok hρ parts.toList (zeros_ok φ hz2 (len * j.size)) hf
              have hlen : rs.length = len * j.size := by
                rw [← h2.length]
                have : ∀ (l : List (Nat × AV)) (c r : List AV), fillA (fun k => some (k * j.size, j.size)) c l = some r → r.length = c.length := fun l => by
                  induction l with
                  | nil => intro c r h; simp only [fillA, Option.some.injEq] at h; rw [h]
                  | cons p l ih =>
                    intro c r h
                    obtain ⟨q, v⟩ := p
                    simp only [fillA] at h
                    split at h
                    · cases h
                    · rw [ih _ _ h, setsL_length]
                rw [this _ _ _ hf]
                simp [zerosA]
              refine ⟨rs.toArray, e, by simpa using h2, fun w => ⟨_, ?_, hsl w _ len len j.size true (Nat.le_refl _) (fun _ => rfl) (by simp [hlen])⟩⟩
              have h0 : ¬ (len * j.size > 2 ^ 24) := by have := hn.2.1; simpa using this
              have hpm : (Array.map (fun x => (x.fst, ρ x.snd)) parts).toList = parts.toList.map fun p => (p.1, ρ p.2) := by simp
              simp only [execOp, hx, Instr.buildSlice, Sem.run_bind, run_und hT hi, hd, Result.andThen, run_size hT hj, h0, if_false, Sem.run_pure]
              by_cases hz0 : len * j.size = 0
              · simp only [hz0] at h1
                simp only [List.range_zero, List.map_nil] at h1
                simp only [hz0, if_true, hpm, range_map, List.range_zero, List.map_nil, Sem.run_pure, h1, Sem.run_bind, run_newRow, Result.andThen]
              · simp only [hz0, if_false, Sem.run_bind, hz, Result.andThen, Sem.run_pure]
                simp only [hpm, range_map, h1, Sem.run_bind, run_newRow, Result.andThen, Sem.run_pure]
            · cases h
        · cases h
      · cases h
    · cases h
  · rename_i t l c hx
    split at h
    · rename_i i x y hi hl hc
      split at h
      · rename_i e hd
        split at h
        · rename_i j hj
          split at h
          · rename_i hb
            cases h
            obtain ⟨b1, b2, b3, b4, b5, b6⟩ := hb
            obtain ⟨m, rfl⟩ := Int.eq_ofNat_of_zero_le b1
            obtain ⟨k, rfl⟩ := Int.eq_ofNat_of_zero_le (Int.le_trans b1 b2)
            have hlv : ρ l = .int .i64 m := by have := hρ l; rw [hl] at this; exact this.lit_inv
            have hcv : ρ c = .int .i64 k := by have := hρ c; rw [hc] at this; exact this.lit_inv
            obtain ⟨ti, z, h3, h6, h7, h4, h5⟩ := (hT e j hj).info
            have hzw : ∀ w : World, (zeroValue e).run P w = .ok z w := fun w => by simp [zeroValue, typeInfo, Sem.run_bind, program, Sem.run, Result.andThen, h3, h4]
            have hiw : ∀ w : World, (typeInfo e).run P w = .ok ti w := fun w => by simp [typeInfo, Sem.run_bind, program, Sem.run, Result.andThen, h3]
            refine ⟨((List.range (k * j.size)).map fun q => z.cells[q % z.cells.size]!).toArray, e, by simpa using zeros_ok φ h5 (k * j.size), fun w => ⟨.slice (some ⟨w.heap.size, 0, none⟩) m k, ?_, ?_⟩⟩
            · have w1 : IntKind.i64.wrap (m : Int) = m := wrap_in _ _ ⟨by simp only [IntKind.lo]; omega, by simp only [IntKind.hi]; omega⟩
              have w2 : IntKind.i64.wrap (k : Int) = k := wrap_in _ _ ⟨by simp only [IntKind.lo]; omega, by simp only [IntKind.hi]; omega⟩
              have hkb : k * ti.bytes ≤ 65536 * 65536 := Nat.mul_le_mul (by omega) (by omega)
              have hbk : (ti.bytes : Int) * (k : Int) ≤ 65536 * 65536 := by
                have : ((ti.bytes * k : Nat) : Int) ≤ ((65536 * 65536 : Nat) : Int) := by rw [Nat.mul_comm]; exact Int.ofNat_le.2 hkb
                simpa using this
              have hc1 : ((decide ((k : Int) < 0) || decide ((ti.bytes : Int) * (k : Int) > 2 ^ 48)) || decide ((m : Int) < 0) || decide ((m : Int) > (k : Int))) = false := by
                simp only [Bool.or_eq_false_iff, decide_eq_false_iff_not]
                refine ⟨⟨⟨by omega, by omega⟩, by omega⟩, by omega⟩
              have hroom : (askRoom (k * ti.bytes)).run P w = .ok () w := by
                unfold askRoom roomBytes
                rw [if_neg (by omega)]; rfl
              simp only [execOp, hx, Instr.makeSlice, Sem.run_bind, run_und hT hi, hd, Result.andThen, hlv, hcv, asInt, asIntOf, Sem.run_pure, hiw, w1, w2, hc1, Bool.false_eq_true, if_false, Int.toNat_natCast, hroom, run_size hT hj]
              by_cases h0 : k * j.size = 0
              · simp only [h0, if_true, range_map, List.range_zero, List.map_nil, Sem.run_bind, Sem.run_pure, Result.andThen, run_newRow]
              · simp only [h0, if_false, Sem.run_bind, hzw, Result.andThen, Sem.run_pure, range_map, run_newRow]
            · have := hsl w (((List.range (k * j.size)).map fun q => z.cells[q % z.cells.size]!).toArray) m k j.size ((m : Int) == k) (by omega) (fun he => by simp at he; omega) (by simp)
              simpa using this
          · cases h
        · cases h
      · cases h
    · cases h
  · cases h
def storeA (T : Ti) (st : St) (t : TypeId) (p v : AV) : Option St :=
  match ptrOf p, T t with
  | some (id, off), some i =>
    match st.h.get id with
    | some (.cells none false cs) =>
      if v.cells.length = i.size ∧ off + i.size ≤ cs.length ∧ v.cells.all AV.one ∧ 0 < v.cells.length then some ⟨st.h.set id (.cells none false (setsL cs off (v.cells.map AV.norm))), st.n⟩ else none
    | _ => none
  | _, _ => none
theorem setRow_size (w : World) (g : Nat) (cs : Array Value) : (w.setRow g cs).heap.size = w.heap.size := by simp [World.setRow]
theorem setsL_get {α : Type} : ∀ (xs cs : List α) (off i : Nat), off + xs.length ≤ cs.length → (setsL cs off xs)[i]? = if off ≤ i ∧ i < off + xs.length then xs[i - off]? else cs[i]?
  | [], cs, off, i, _ => by simp only [setsL, List.length_nil]; rw [if_neg (by omega)]
  | x :: xs, cs, off, i, h => by
    simp only [List.length_cons] at h
    rw [setsL, setsL_get xs (cs.set off x) (off + 1) i (by simp; omega)]
    by_cases h1 : off + 1 ≤ i ∧ i < off + 1 + xs.length
    · rw [if_pos h1, if_pos (by simp only [List.length_cons]; omega)]
      rw [show i - off = (i - (off + 1)) + 1 from by omega]
      simp
    · rw [if_neg h1]
      by_cases h2 : i = off
      · subst h2
        rw [if_pos (by simp only [List.length_cons]; omega)]
        simp [show i < cs.length from by omega]
      · rw [if_neg (by simp only [List.length_cons]; omega), List.getElem?_set_ne (Ne.symm h2)]
theorem splice_get (c vs : List Value) (o i : Nat) (h : o + vs.length ≤ c.length) : (c.take o ++ vs ++ c.drop (o + vs.length))[i]? = if o ≤ i ∧ i < o + vs.length then vs[i - o]? else c[i]? := by
  have ho : (c.take o).length = o := by simp; omega
  by_cases h1 : i < o
  · rw [if_neg (by omega), List.append_assoc, List.getElem?_append_left (by omega), List.getElem?_take, if_pos h1]
  · by_cases h2 : i < o + vs.length
    · rw [if_pos ⟨by omega, h2⟩, List.append_assoc, List.getElem?_append_right (by omega), ho, List.getElem?_append_left (by omega)]
    · rw [if_neg (by omega), List.getElem?_append_right (by simp; omega), List.getElem?_drop]
      congr 1
      simp; omega
theorem VRL.one {φ : Fi} {as0 : List AV} {us : List Value} (h : VRL φ as0 us) (h1 : as0.all AV.one = true) : ∀ u ∈ us, u.oneCell' = true := by
  induction as0 generalizing us with
  | nil => cases h; simp
  | cons a as0 ih =>
    cases h with
    | cons h t =>
      simp only [List.all_cons, Bool.and_eq_true] at h1
      intro u hu
      rcases List.mem_cons.1 hu with rfl | hu
      · exact h.one h1.1
      · exact ih t h1.2 u hu
theorem store_ok (hT : TOk P T) {φ : Fi} {st st' : St} {w : World} {t : TypeId} {p v : AV} {pv vv : Value} (hr : Rel φ st w) (hp : VR φ p pv) (hv : VR φ v vv) (h : storeA T st t p v = some st') :
    ∃ w', (Instr.storeAt t pv vv).run P w = .ok () w' ∧ Rel φ st' w' ∧ Fr φ st w φ st' w' ∧ st'.n = st.n := by
  unfold storeA at h
  split at h
  · rename_i id off i hpt hi
    replace hp := ptrOf_ok hpt hp
    split at h
    · rename_i cs ho
      split at h
      · rename_i hc
        cases h
        obtain ⟨c1, c2, c3, c4⟩ := hc
        have hv0 := hv.cells c4
        have c3' := hv0.one c3
        have hv := hv0.norm
        have c1 : (v.cells.map AV.norm).length = i.size := by rw [List.length_map]; exact c1
        generalize v.cells.map AV.norm = vc at *
        obtain ⟨rfl, hid⟩ := hp.ptr_inv
        obtain ⟨hcell, hblk⟩ := hr.obj id _ ho
        obtain ⟨c, ty, hb, hcn, hcl⟩ := hblk rfl
        have hvl := hv.length
        have hsz : vv.cells.size = i.size := by rw [← c1, hvl]; simp
        have hrun := run_storeCells_at P (φ.f id).b ((φ.f id).o + off) ty vv.cells.toList 0 c w hb (by simp [hsz]; omega) c3'
        simp only [Nat.add_zero] at hrun
        refine ⟨w.setRow (φ.f id).b (c.toList.take ((φ.f id).o + off) ++ vv.cells.toList ++ c.toList.drop ((φ.f id).o + off + vv.cells.toList.length)).toArray, ?_, ?_⟩
        · simp only [Instr.storeAt, Instr.sureAddr, Sem.run_bind, Sem.run_pure, Result.andThen, storeVar, run_size hT hi, hsz, ne_eq, not_true_eq_false, if_false]
          exact hrun
        · have := hr.turn (id := id) (o := .cells none false cs) (o' := .cells none false (setsL cs off vc)) (w' := w.setRow (φ.f id).b (c.toList.take ((φ.f id).o + off) ++ vv.cells.toList ++ c.toList.drop ((φ.f id).o + off + vv.cells.toList.length)).toArray) ho rfl rfl rfl rfl rfl rfl (setRow_size _ _ _) (fun k hk => setRow_other w _ k _ hk) ?_
          · exact ⟨this.1, this.2, rfl⟩
          · have hcl' : c.toList.length = (φ.f id).n := by simp [hcn]
            have hvs : vv.cells.toList.length = i.size := by simp [hsz]
            refine ⟨fun k a ha => ?_, fun _ => ⟨_, ty, setRow_heap w _ c _ ty (0, 0) hb, ?_, by rw [setsL_length]; exact hcl⟩⟩
            · have hnew : ∀ j, (w.setRow (φ.f id).b (c.toList.take ((φ.f id).o + off) ++ vv.cells.toList ++ c.toList.drop ((φ.f id).o + off + vv.cells.toList.length)).toArray).cell? ⟨(φ.f id).b, j, none⟩ =
                  if (φ.f id).o + off ≤ j ∧ j < (φ.f id).o + off + vv.cells.toList.length then vv.cells.toList[j - ((φ.f id).o + off)]? else c[j]? := fun j => by
                unfold World.cell?
                simp only [setRow_heap w _ c _ ty (0, 0) hb]
                rw [← Array.getElem?_toList (xs := c), ← splice_get c.toList vv.cells.toList ((φ.f id).o + off) j (by rw [hvs, hcl']; omega)]
                simp
              rw [setsL_get _ _ _ _ (by rw [c1]; exact c2)] at ha
              rw [hnew]
              split at ha
              · rename_i hk
                rw [c1] at hk
                rw [if_pos (by rw [hvs]; omega)]
                obtain ⟨u, hu, hru⟩ := hv.get _ _ ha
                exact ⟨u, by rw [show (φ.f id).o + k - ((φ.f id).o + off) = k - off from by omega]; exact hu, hru⟩
              · rename_i hk
                rw [c1] at hk
                rw [if_neg (by rw [hvs]; omega)]
                obtain ⟨u, hu, hru⟩ := hcell k a ha
                refine ⟨u, ?_, hru⟩
                unfold World.cell? at hu
                simpa [hb] using hu
            · simp only [List.size_toArray, List.length_append, List.length_take, List.length_drop, hcl', hvs]
              omega
      · cases h
    · cases h
  · cases h
end
end Go.Fz
