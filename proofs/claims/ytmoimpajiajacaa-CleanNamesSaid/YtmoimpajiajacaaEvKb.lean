/-
  THE EVALUATOR, MADE QUICK: light operations, read once. Own work of the verifier of watercress.
-/
import Derived.Test.YtmoimpajiajacaaEvKa
namespace Go.Ev

/-- A light operation, read. -/
inductive Kl where
  | mv (x : Ar)
  | ld1 (x : Ar)
  | lda (n : Nat) (x : Ar)
  | fa (off : Nat) (x : Ar)
  | fd1 (off : Nat) (x : Ar)
  | fda (n off : Nat) (x : Ar)
  | ixs (sz : Nat) (x ix : Ar)
  | ixa (len sz : Nat) (x ix : Ar)
  | bi (op : BinOp) (x y : Ar)
  | ex (x : Ar) (i : Nat)
  | nt (x : Ar)
  | ln (x : Ar)
  | mf (fn : Fn) (a b : List Ar)
  | pk (c a b : Ar)
  | bd (zs : List AV) (ps : List (Nat × Nat × Ar))
  | gen
  | hv

section
variable (T : Ti)
/-- How a part is taken: size of a struct or an array; none for one cell. -/
def partK (t : TypeId) : Option (Option Nat) := match T t with
  | some i => if aggD i.desc then some (some i.size) else some none
  | none => none
def fieldK (s : TypeId) (f : Nat) : Option Field := match T s with
  | some i => match i.desc with
    | .struct fs => fs[f]?
    | _ => none
  | none => none
def compP (places : Nat → Option (Nat × Nat)) : List (Nat × Operand) → Option (List (Nat × Nat × Ar))
  | [] => some []
  | p :: l => match places p.1, compA p.2, compP places l with
    | some q, some a, some r => some ((q.1, q.2, a) :: r)
    | _, _, _ => none
def placeK (i : TI) : Nat → Option (Nat × Nat) := match i.desc with
  | .struct fs => match placesA T fs.toList with
    | some places => fun k => places[k]?
    | none => fun _ => none
  | .array _ e => match T e with
    | some j => fun k => some (k * j.size, j.size)
    | none => fun _ => none
  | _ => fun _ => none
def compU (o : Op) : Kl := match o with
  | .pick c x y => match compA c, compA x, compA y with
    | some c, some a, some b => .pk c a b
    | _, _, _ => .gen
  | .build t ps => match ps.toList with
    | [] => .gen
    | p :: l => match T t with
      | some i => match compP (placeK T i) (p :: l) with
        | some r => .bd (i.zero.map .lit) r
        | none => .gen
      | none => .gen
  | .move x | .assign x => match compA x with
    | some a => .mv a
    | none => .gen
  | .load t x => match compA x, partK T t with
    | some a, some (some n) => .lda n a
    | some a, some none => .ld1 a
    | _, _ => .gen
  | .fieldAddr s x f => match compA x, fieldK T s f with
    | some a, some fd => match T fd.type with
      | some j => match Nat.beq j.size 0 with
        | true => .gen
        | false => .fa fd.offset a
      | none => .gen
    | _, _ => .gen
  | .field s x f => match compA x, fieldK T s f with
    | some a, some fd => match partK T fd.type with
      | some (some n) => .fda n fd.offset a
      | some none => .fd1 fd.offset a
      | none => .gen
    | _, _ => .gen
  | .indexAddr t x ix => match compA x, compA ix, T t with
    | some a, some b, some i => match i.desc with
      | .slice e => match T e with
        | some j => .ixs j.size a b
        | none => .gen
      | .array len e => match T e with
        | some j => .ixa len j.size a b
        | none => .gen
      | _ => .gen
    | _, _, _ => .gen
  | .binOp op t x y _ => match compA x, compA y with
    | some a, some b => match T t with
      | some i => match i.flat && aggD i.desc with
        | true => .gen
        | false => .bi op a b
      | none => .gen
    | _, _ => .gen
  | .unOp .not _ x => match compA x with
    | some a => .nt a
    | none => .gen
  | .extract x i => match compA x with
    | some a => .ex a i
    | none => .gen
  | .makeFunc f a b => match compL a.toList, compL b.toList with
    | some a, some b => .mf f a b
    | _, _ => .gen
  | .alloc _ | .box _ _ | .buildSlice _ _ _ | .makeSlice _ _ _ | .store _ _ _ | .mapUpdate _ _ _ _ | .lookup _ _ _ _ | .makeMap _ _ | .range _ _ | .next _ _ | .entry _ => .hv
  | .call c => match c.callee with
    | .value _ => .hv
    | .builtin .append => .hv
    | .builtin .len => match c.args.toList, c.argTypes.toList with
      | [x], [t] => match compA x, T t with
        | some a, some i => match i.desc with
          | .slice _ => .ln a
          | _ => .gen
        | _, _ => .gen
      | _, _ => .gen
    | _ => .gen
  | _ => .gen
end
/-- What a guard asks: which slot must hold which truth. -/
def compG (ops : Array Oper) (g : Nat × Bool) : Option (Nat × Pa × Bool) := match ops[g.1]? with
  | some o => match o.dst with
    | some d => match Nat.blt d 1048575 with
      | true => some (d, pth d, g.2)
      | false => none
    | none => none
  | none => none

/-! ### What they yield -/
def cellsF (a : AV) : List AV := match a with
  | .lit (.int k n) => [.lit (.int k n)]
  | .lit (.bool b) => [.lit (.bool b)]
  | .agg cs => cs
  | .lit v => v.cells.toList.map .lit
  | a => [a]
theorem cellsF_eq (a : AV) : cellsF a = a.cells := by
  cases a with
  | lit v => cases v <;> rfl
  | _ => rfl
def natI (a : AV) : Option Nat := match a with
  | .lit (.int _ (.ofNat n)) => some n
  | _ => none
noncomputable def cellL (h : Hp) (id : Nat) : Option (List AV) := match hget h id with
  | some (.cells _ _ cs) => some cs
  | _ => none
noncomputable def aggL (n off : Nat) (cs : List AV) : Option AV := match Nat.ble (off + n) (lenL cs) with
  | true => some (.agg (takeL (dropL cs off) n))
  | false => none
noncomputable def kLd1 (h : Hp) (a : AV) : Option AV := match a with
  | .ptr id off => match cellL h id with
    | some cs => nthL cs off
    | none => none
  | _ => none
noncomputable def kLda (h : Hp) (n : Nat) (a : AV) : Option AV := match a with
  | .ptr id off => match cellL h id with
    | some cs => aggL n off cs
    | none => none
  | _ => none
def kFa (off : Nat) (a : AV) : Option AV := match a with
  | .ptr id o => some (.ptr id (o + off))
  | _ => none
noncomputable def kFd1 (off : Nat) (a : AV) : Option AV := match a with
  | .agg cs => nthL cs off
  | _ => none
noncomputable def kFda (n off : Nat) (a : AV) : Option AV := match a with
  | .agg cs => aggL n off cs
  | _ => none
def kIxs (sz : Nat) (a : AV) (n : Nat) : Option AV := match a with
  | .sl id off len sz' _ => match Nat.blt n len && Nat.beq sz sz' with
    | true => some (.ptr id (off + n * sz'))
    | false => none
  | _ => none
def kIxa (len sz : Nat) (a : AV) (n : Nat) : Option AV := match a with
  | .ptr id off => match Nat.blt n len with
    | true => some (.ptr id (off + n * sz))
    | false => none
  | _ => none
def bB (b : Bool) : Option AV := some (.lit (.bool b))
def bI (n : Nat) : Option AV := some (.lit (.int .i64 (.ofNat n)))
def binN (op : BinOp) (m n : Nat) : Option AV := match op with
  | .add => match Nat.ble (m + n) 4611686018427387904 with
    | true => bI (m + n)
    | false => none
  | .sub => match Nat.ble n m && Nat.ble m 4611686018427387904 with
    | true => bI (m - n)
    | false => none
  | .eql => bB (Nat.beq m n)
  | .neq => bB (!Nat.beq m n)
  | .lss => bB (Nat.blt m n)
  | .leq => bB (Nat.ble m n)
  | .gtr => bB (Nat.blt n m)
  | .geq => bB (Nat.ble n m)
  | _ => none
def nat64 (a : AV) : Option Nat := match a with
  | .lit (.int .i64 (.ofNat n)) => some n
  | _ => none
def kBi (op : BinOp) (a b : AV) : Option AV := match nat64 a with
  | some m => match nat64 b with
    | some n => match binN op m n with
      | some r => some r
      | none => binA op a b
    | none => binA op a b
  | none => binA op a b
noncomputable def kEx (a : AV) (i : Nat) : Option AV := match a with
  | .tup vs => nthL vs i
  | _ => none
def kNt (a : AV) : Option AV := match a with
  | .lit (.bool b) => bB (!b)
  | _ => none
def kLn (a : AV) : Option AV := match a with
  | .sl _ _ n _ _ => bI n
  | .lit (.slice _ n _) => bI n
  | _ => none

def kPk (c a b : AV) : Option AV := match c with
  | .lit (.bool true) => some a
  | .lit (.bool false) => some b
  | _ => none
noncomputable def fill3 (f : TF) (ps : List (Nat × Nat × Ar)) : List AV → Option (List AV) := @List.rec (Nat × Nat × Ar) (fun _ => List AV → Option (List AV)) (fun cs => some cs) (fun p _ ih cs => match Nat.beq (lenL (cellsF (p.2.2.ev f))) p.2.1 && Nat.ble (p.1 + p.2.1) (lenL cs) with
  | true => ih (setsF (cellsF (p.2.2.ev f)) cs p.1)
  | false => none) ps

section
variable (T : Ti)
noncomputable def runK (ops : Array Oper) (h : Hp) (f : TF) (o : Oper) (k : Kl) : Option AV := match k with
  | .mv x => some (x.ev f)
  | .ld1 x => kLd1 h (x.ev f)
  | .lda n x => kLda h n (x.ev f)
  | .fa off x => kFa off (x.ev f)
  | .fd1 off x => kFd1 off (x.ev f)
  | .fda n off x => kFda n off (x.ev f)
  | .ixs sz x ix => match natI (ix.ev f) with
    | some n => kIxs sz (x.ev f) n
    | none => none
  | .ixa len sz x ix => match natI (ix.ev f) with
    | some n => kIxa len sz (x.ev f) n
    | none => none
  | .bi op x y => kBi op (x.ev f) (y.ev f)
  | .ex x i => kEx (x.ev f) i
  | .nt x => kNt (x.ev f)
  | .ln x => kLn (x.ev f)
  | .mf fn a b => some (.fn fn (evL3 f a) (evL3 f b))
  | .pk c a b => kPk (c.ev f) (a.ev f) (b.ev f)
  | .bd zs ps => match fill3 f ps zs with
    | some cs => some (.agg cs)
    | none => none
  | .gen => evG T h f.av o
  | .hv => none
noncomputable def want3 (ops : Array Oper) (f : TF) (o : Oper) : Bool := match o.guard with
  | none => true
  | some g => match compG ops g with
    | some (d, p, b) => @Bool.rec (fun _ => Bool) false (match goP p f.t with
      | .lit (.bool c) => (match b with
        | true => c
        | false => !c)
      | _ => false) (Nat.blt d f.len)
    | none => wantT ops f o
noncomputable def light3 (ops : Array Oper) (h : Hp) (f : TF) (o : Oper) : Option AV := match o.guard with
  | none => runK T ops h f o (compU T o.op)
  | some _ => match want3 ops f o with
    | true => runK T ops h f o (compU T o.op)
    | false => some undA
end

/-! ### It is the same -/
theorem cellL_eq (h : Hp) (id : Nat) : cellL h id = cellsAt h id := by
  unfold cellL cellsAt
  rw [hget_eq]
  cases h.get id with
  | none => rfl
  | some o => cases o <;> rfl
theorem nat64_ok {a : AV} {n : Nat} (h : nat64 a = some n) : a = .lit (.int .i64 (.ofNat n)) := by
  unfold nat64 at h
  split at h
  · cases h; rfl
  · cases h
theorem natI_ok {a : AV} {n : Nat} (h : natI a = some n) : ∃ k, a = .lit (.int k (.ofNat n)) := by
  unfold natI at h
  split at h
  · cases h; exact ⟨_, rfl⟩
  · cases h
theorem beq_int (m n : Nat) : ((Int.ofNat m == Int.ofNat n) : Bool) = Nat.beq m n := by
  rw [Bool.eq_iff_iff, beq_iff_eq]
  exact ⟨fun h => by injection h with h; subst h; exact Nat.beq_refl m, fun h => by rw [Nat.eq_of_beq_eq_true h]⟩
theorem lt_int (m n : Nat) : decide (Int.ofNat m < Int.ofNat n) = Nat.blt m n := by
  rw [Bool.eq_iff_iff, decide_eq_true_iff]
  exact ⟨fun h => Nat.ble_eq_true_of_le (Int.ofNat_lt.1 h), fun h => Int.ofNat_lt.2 (Nat.le_of_ble_eq_true h)⟩
theorem le_int (m n : Nat) : decide (Int.ofNat m ≤ Int.ofNat n) = Nat.ble m n := by
  rw [Bool.eq_iff_iff, decide_eq_true_iff]
  exact ⟨fun h => Nat.ble_eq_true_of_le (Int.ofNat_le.1 h), fun h => Int.ofNat_le.2 (Nat.le_of_ble_eq_true h)⟩
theorem in64 {n : Nat} (h : n ≤ 4611686018427387904) : wrp .i64 (Int.ofNat n) = Int.ofNat n := by
  have h1 : (0 : Int) ≤ Int.ofNat n := Int.natCast_nonneg n
  have h2 : Int.ofNat n ≤ 4611686018427387904 := Int.ofNat_le.2 h
  exact wrp_in (by simp only [IntKind.lo]; omega) (by simp only [IntKind.hi]; omega)
theorem binN_ok {op : BinOp} {m n : Nat} {r : AV} (h : binN op m n = some r) : binA op (.lit (.int .i64 (.ofNat m))) (.lit (.int .i64 (.ofNat n))) = some r := by
  cases op <;> simp only [binN, bB, bI] at h
  case add =>
    split at h
    · rename_i hb
      cases h
      have := Nat.le_of_ble_eq_true hb
      simp only [binA, if_true]
      rw [show Int.ofNat m + Int.ofNat n = Int.ofNat (m + n) from rfl, in64 this]
    · cases h
  case sub =>
    split at h
    · rename_i hb
      simp only [Bool.and_eq_true] at hb
      cases h
      have h1 := Nat.le_of_ble_eq_true hb.1
      have h2 := Nat.le_of_ble_eq_true hb.2
      simp only [binA, if_true]
      rw [show Int.ofNat m - Int.ofNat n = Int.ofNat (m - n) from (Int.ofNat_sub h1).symm, in64 (Nat.le_trans (Nat.sub_le m n) h2)]
    · cases h
  case eql => cases h; simp only [binA, if_true, intCmpB, Option.map_some, beq_int]
  case neq => cases h; simp only [binA, if_true, intCmpB, Option.map_some, bne, beq_int]
  case lss => cases h; simp only [binA, if_true, intCmpB, Option.map_some, lt_int]
  case leq => cases h; simp only [binA, if_true, intCmpB, Option.map_some, le_int]
  case gtr => cases h; simp only [binA, if_true, intCmpB, Option.map_some, GT.gt, lt_int]
  case geq => cases h; simp only [binA, if_true, intCmpB, Option.map_some, GE.ge, le_int]
  all_goals cases h
theorem kBi_eq (op : BinOp) (a b : AV) : kBi op a b = binA op a b := by
  unfold kBi
  split
  · rename_i m hm
    split
    · rename_i n hn
      split
      · rename_i r hr
        rw [nat64_ok hm, nat64_ok hn, binN_ok hr]
      · rfl
    · rfl
  · rfl
end Go.Ev
