/-
  OPERATIONS THAT MAKE MEMORY, and those that write it. Own work of the verifier of watercress.
-/
import Derived.Test.YtmoimpajiajacaaEvB
import Derived.Laws.AppendOwn
import Derived.Laws.CopyRow
namespace Go.Ev

def setsL {α : Type} : List α → Nat → List α → List α
  | cs, _, [] => cs
  | cs, off, x :: xs => setsL (cs.set off x) (off + 1) xs
theorem setsL_length {α : Type} : ∀ (xs cs : List α) (off : Nat), (setsL cs off xs).length = cs.length
  | [], _, _ => rfl
  | x :: xs, cs, off => by simp [setsL, setsL_length xs]
theorem VRL.sets {φ : Fi} : ∀ {xs : List AV} {vs : List Value} {cs : List AV} {us : List Value} (off : Nat), VRL φ xs vs → VRL φ cs us → VRL φ (setsL cs off xs) (setsL us off vs)
  | [], _, _, _, _, h, k => by cases h; exact k
  | _ :: _, _, _, _, off, h, k => by
    cases h with | cons h t => exact VRL.sets (off + 1) t (k.set off h)

def fillA (place : Nat → Option (Nat × Nat)) (cells : List AV) : List (Nat × AV) → Option (List AV)
  | [] => some cells
  | (i, v) :: rest =>
    match place i with
    | none => none
    | some (off, size) =>
      if v.cells.length ≠ size ∨ off + v.cells.length > cells.length then none
      else fillA place (setsL cells off v.cells) rest

theorem fold_sets (off : Nat) : ∀ (xs us : List Value) (k : Nat), ((xs.zipIdx k).foldl (fun (cs : Array Value) (p : Value × Nat) => cs.setIfInBounds (off + p.2) p.1) us.toArray) = (setsL us (off + k) xs).toArray
  | [], us, k => by simp [setsL]
  | x :: xs, us, k => by
    simp only [List.zipIdx_cons, List.foldl_cons, setsL]
    rw [List.setIfInBounds_toArray]
    exact fold_sets off xs (us.set (off + k) x) (k + 1)

theorem fill_ok {φ : Fi} {place : Nat → Option (Nat × Nat)} {ρa : Operand → AV} {ρ : Operand → Value} (hρ : OpR φ ρa ρ) : ∀ (parts : List (Nat × Operand)) {cells : List AV} {us : List Value} {r : List AV}, VRL φ cells us →
    fillA place cells (parts.map fun p => (p.1, ρa p.2)) = some r → ∃ rs : List Value, Instr.fill place us.toArray (parts.map fun p => (p.1, ρ p.2)) = some rs.toArray ∧ VRL φ r rs
  | [], _, us, _, hc, h => by simp only [List.map_nil, fillA, Option.some.injEq] at h; subst h; exact ⟨us, rfl, hc⟩
  | (i, x) :: rest, cells, us, r, hc, h => by
    simp only [List.map_cons, fillA] at h
    split at h
    · cases h
    · rename_i off size hp
      split at h
      · cases h
      · rename_i hn
        have hv := (hρ x).cells
        have hl := hv.length
        have hl2 := hc.length
        have h1 : (ρ x).cells.size = (ρa x).cells.length := by rw [hl]; simp
        obtain ⟨rs, h2, h3⟩ := fill_ok hρ rest (hv.sets off hc) h
        refine ⟨rs, ?_, h3⟩
        simp only [List.map_cons, Instr.fill, hp]
        have hcond : ((ρ x).cells.size ≠ size || off + (ρ x).cells.size > us.toArray.size) = false := by
          rw [not_or] at hn
          rw [h1]
          simp only [List.size_toArray, ne_eq, Bool.or_eq_false_iff, decide_eq_false_iff_not]
          exact ⟨hn.1, by have := hn.2; omega⟩
        simp only [ne_eq, Bool.or_eq_true, decide_eq_true_eq] at hcond ⊢
        rw [if_neg (by simpa using hcond)]
        rw [← h2]
        congr 1
        rw [← Array.foldl_toList, Array.toList_zipIdx]
        exact fold_sets off _ us 0

/-- The cells of n zero values. -/
def zerosA (i : TI) (n : Nat) : List AV := (List.range n).map fun k => .lit (i.zero[k % i.zero.length]!)

/-- Operations that lay a new object: the value (the object's number is n), and its cells. -/
def evF (T : Ti) (n : Nat) (ρ : Operand → AV) (o : Oper) : Option (AV × List AV) :=
  match o.op with
  | .alloc e => match T e with
    | some i => some (.ptr n 0, i.zero.map .lit)
    | none => none
  | .box _ x => some (.ptr n 0, (ρ x).cells)
  | .buildSlice t len parts => match T t with
    | some i => match i.desc with
      | .slice e => match T e with
        | some j =>
          if j.size = 0 ∨ len * j.size > 16777216 ∨ j.zero.length ≠ j.size then none else
          match fillA (fun k => some (k * j.size, j.size)) (zerosA j (len * j.size)) (parts.toList.map fun p => (p.1, ρ p.2)) with
          | some cs => some (.sl n 0 len j.size true, cs)
          | none => none
        | none => none
      | _ => none
    | none => none
  | .makeSlice t l c => match T t, ρ l, ρ c with
    | some i, .lit (.int .i64 a), .lit (.int .i64 b) => match i.desc with
      | .slice e => match T e with
        | some j => if 0 ≤ a ∧ a ≤ b ∧ b ≤ 65536 ∧ j.bytes ≤ 65536 ∧ j.size ≠ 0 ∧ j.zero.length = j.size then some (.sl n 0 a.toNat j.size (a == b), zerosA j (b.toNat * j.size)) else none
        | none => none
      | _ => none
    | _, _, _ => none
  | _ => none

section
variable {P : Program} {T : Ti}

theorem zeros_ok (φ : Fi) {j : TI} {z : Value} (hz : z.cells.toList = j.zero) (n : Nat) : VRL φ (zerosA j n) ((List.range n).map fun k => z.cells[k % z.cells.size]!) := by
  unfold zerosA
  have hs : z.cells.size = j.zero.length := by rw [← hz]; simp
  refine VRL.of_get (by simp) fun i a u ha hu => ?_
  simp only [List.getElem?_map] at ha hu
  cases hr : (List.range n)[i]? with
  | none => simp [hr] at ha
  | some k =>
    simp only [hr, Option.map_some, Option.some.injEq] at ha hu
    subst ha; subst hu
    have : z.cells[k % z.cells.size]! = j.zero[k % j.zero.length]! := by
      rw [hs, ← hz]
      simp [getElem!_def]
    rw [this]; exact .lit _

theorem range_map {α : Type} (f : Nat → α) (n : Nat) : Array.map f (Array.range n) = ((List.range n).map f).toArray := by
  apply Array.ext'
  simp
theorem run_newRow (e : TypeId) (c : Array Value) (w : World) : (newRow e c).run P w = .ok ⟨w.heap.size, 0, none⟩ (w.alloc (.cells c e)) := rfl

theorem evF_ok (hT : TOk P T) {φ : Fi} {ρa : Operand → AV} {ρ : Operand → Value} {o : Oper} {a : AV} {cs : List AV} (hρ : OpR φ ρa ρ) (h : evF T φ.n ρa o = some (a, cs)) :
    ∃ (c : Array Value) (t : TypeId), VRL φ cs c.toList ∧ ∀ w : World, ∃ u, (execOp ρ o).run P w = .ok (.value u) (w.alloc (.cells c t)) ∧ VR (φ.push ⟨w.heap.size, 0, c.size⟩) a u := by
  have hptr : ∀ (w : World) (c : Array Value), VR (φ.push ⟨w.heap.size, 0, c.size⟩) (.ptr φ.n 0) (.pointer (some ⟨w.heap.size, 0, none⟩)) := fun w c => by
    have := VR.ptr (φ := φ.push ⟨w.heap.size, 0, c.size⟩) φ.n 0 (by simp [Fi.push])
    rwa [Fi.push_new] at this
  have hsl : ∀ (w : World) (c : Array Value) (len cap sz : Nat) (ex : Bool), len ≤ cap → (ex = true → cap = len) → cap * sz ≤ c.size → VR (φ.push ⟨w.heap.size, 0, c.size⟩) (.sl φ.n 0 len sz ex) (.slice (some ⟨w.heap.size, 0, none⟩) len cap) := fun w c len cap sz ex h1 h2 h3 => by
    have := VR.sl (φ := φ.push ⟨w.heap.size, 0, c.size⟩) φ.n 0 len sz ex cap (by simp [Fi.push]) h1 h2 (by rw [Fi.push_new]; simpa using h3)
    rwa [Fi.push_new] at this
  unfold evF at h
  split at h
  · rename_i e hx
    split at h
    · rename_i i hi
      cases h
      obtain ⟨z, hz, hz2⟩ := run_zero (P := P) hT hi default
      have hzw : ∀ w : World, (zeroValue e).run P w = .ok z w := fun w => by
        obtain ⟨z', h1, _⟩ := run_zero (P := P) hT hi w
        have h2 := (hT e i hi).info
        obtain ⟨ti, z2, h3, _, _, h4, _⟩ := h2
        have h5 : ∀ w : World, (zeroValue e).run P w = .ok z2 w := fun w => by simp [zeroValue, typeInfo, Sem.run_bind, program, Sem.run, Result.andThen, h3, h4]
        rw [h5 default] at hz
        injection hz with hz _
        rw [h5 w, hz]
      refine ⟨z.cells, e, by rw [hz2]; exact VRL.lits _, fun w => ⟨_, ?_, hptr w _⟩⟩
      simp only [execOp, hx, Instr.alloc, Sem.run_bind, hzw, Result.andThen, newVar, run_newRow, Sem.run_pure]
    · cases h
  · rename_i e x hx
    cases h
    refine ⟨(ρ x).cells, e, (hρ x).cells, fun w => ⟨_, ?_, hptr w _⟩⟩
    simp only [execOp, hx, Instr.box, Sem.run_bind, Result.andThen, newVar, run_newRow, Sem.run_pure]
  · rename_i t len parts hx
    split at h
    · rename_i i hi
      split at h
      · rename_i e hd
        split at h
        · rename_i j hj
          split at h
          · cases h
          · rename_i hn
            rw [not_or, not_or] at hn
            split at h
            · rename_i cs' hf
              cases h
              obtain ⟨z, hz, hz2⟩ : ∃ z, (∀ w : World, (zeroValue e).run P w = .ok z w) ∧ z.cells.toList = j.zero := by
                obtain ⟨ti, z2, h3, _, _, h4, h5⟩ := (hT e j hj).info
                exact ⟨z2, fun w => by simp [zeroValue, typeInfo, Sem.run_bind, program, Sem.run, Result.andThen, h3, h4], h5⟩
              obtain ⟨rs, h1, h2⟩ := fill_ok hρ parts.toList (zeros_ok φ hz2 (len * j.size)) hf
              have hlen : rs.length = len * j.size := by
                rw [← h2.length]
                have : ∀ (l : List (Nat × AV)) (c r : List AV), fillA (fun k => some (k * j.size, j.size)) c l = some r → r.length = c.length := fun l => by
                  induction l with
                  | nil => intro c r h; simp only [fillA, Option.some.injEq] at h; rw [h]
                  | cons p l ih =>
                    intro c r h
                    obtain ⟨q, v⟩ := p
                    simp only [fillA] at h
                    split at h
                    · cases h
                    · rw [ih _ _ h, setsL_length]
                rw [this _ _ _ hf]
                simp [zerosA]
              refine ⟨rs.toArray, e, by simpa using h2, fun w => ⟨_, ?_, hsl w _ len len j.size true (Nat.le_refl _) (fun _ => rfl) (by simp [hlen])⟩⟩
              have h0 : ¬ (len * j.size > 2 ^ 24) := by have := hn.2.1; simpa using this
              have hpm : (Array.map (fun x => (x.fst, ρ x.snd)) parts).toList = parts.toList.map fun p => (p.1, ρ p.2) := by simp
              simp only [execOp, hx, Instr.buildSlice, Sem.run_bind, run_und hT hi, hd, Result.andThen, run_size hT hj, h0, if_false, Sem.run_pure]
              by_cases hz0 : len * j.size = 0
              · simp only [hz0] at h1
                simp only [List.range_zero, List.map_nil] at h1
                simp only [hz0, if_true, hpm, range_map, List.range_zero, List.map_nil, Sem.run_pure, h1, Sem.run_bind, run_newRow, Result.andThen]
              · simp only [hz0, if_false, Sem.run_bind, hz, Result.andThen, Sem.run_pure]
                simp only [hpm, range_map, h1, Sem.run_bind, run_newRow, Result.andThen, Sem.run_pure]
            · cases h
        · cases h
      · cases h
    · cases h
  · rename_i t l c hx
    split at h
    · rename_i i x y hi hl hc
      split at h
      · rename_i e hd
        split at h
        · rename_i j hj
          split at h
          · rename_i hb
            cases h
            obtain ⟨b1, b2, b3, b4, b5, b6⟩ := hb
            obtain ⟨m, rfl⟩ := Int.eq_ofNat_of_zero_le b1
            obtain ⟨k, rfl⟩ := Int.eq_ofNat_of_zero_le (Int.le_trans b1 b2)
            have hlv : ρ l = .int .i64 m := by have := hρ l; rw [hl] at this; exact this.lit_inv
            have hcv : ρ c = .int .i64 k := by have := hρ c; rw [hc] at this; exact this.lit_inv
            obtain ⟨ti, z, h3, h6, h7, h4, h5⟩ := (hT e j hj).info
            have hzw : ∀ w : World, (zeroValue e).run P w = .ok z w := fun w => by simp [zeroValue, typeInfo, Sem.run_bind, program, Sem.run, Result.andThen, h3, h4]
            have hiw : ∀ w : World, (typeInfo e).run P w = .ok ti w := fun w => by simp [typeInfo, Sem.run_bind, program, Sem.run, Result.andThen, h3]
            refine ⟨((List.range (k * j.size)).map fun q => z.cells[q % z.cells.size]!).toArray, e, by simpa using zeros_ok φ h5 (k * j.size), fun w => ⟨.slice (some ⟨w.heap.size, 0, none⟩) m k, ?_, ?_⟩⟩
            · have w1 : IntKind.i64.wrap (m : Int) = m := wrap_in _ _ ⟨by simp only [IntKind.lo]; omega, by simp only [IntKind.hi]; omega⟩
              have w2 : IntKind.i64.wrap (k : Int) = k := wrap_in _ _ ⟨by simp only [IntKind.lo]; omega, by simp only [IntKind.hi]; omega⟩
              have hkb : k * ti.bytes ≤ 65536 * 65536 := Nat.mul_le_mul (by omega) (by omega)
              have hbk : (ti.bytes : Int) * (k : Int) ≤ 65536 * 65536 := by
                have : ((ti.bytes * k : Nat) : Int) ≤ ((65536 * 65536 : Nat) : Int) := by rw [Nat.mul_comm]; exact Int.ofNat_le.2 hkb
                simpa using this
              have hc1 : ((decide ((k : Int) < 0) || decide ((ti.bytes : Int) * (k : Int) > 2 ^ 48)) || decide ((m : Int) < 0) || decide ((m : Int) > (k : Int))) = false := by
                simp only [Bool.or_eq_false_iff, decide_eq_false_iff_not]
                refine ⟨⟨⟨by omega, by omega⟩, by omega⟩, by omega⟩
              have hroom : (askRoom (k * ti.bytes)).run P w = .ok () w := by
                unfold askRoom roomBytes
                rw [if_neg (by omega)]; rfl
              simp only [execOp, hx, Instr.makeSlice, Sem.run_bind, run_und hT hi, hd, Result.andThen, hlv, hcv, asInt, asIntOf, Sem.run_pure, hiw, w1, w2, hc1, Bool.false_eq_true, if_false, Int.toNat_natCast, hroom, run_size hT hj]
              by_cases h0 : k * j.size = 0
              · simp only [h0, if_true, range_map, List.range_zero, List.map_nil, Sem.run_bind, Sem.run_pure, Result.andThen, run_newRow]
              · simp only [h0, if_false, Sem.run_bind, hzw, Result.andThen, Sem.run_pure, range_map, run_newRow]
            · have := hsl w (((List.range (k * j.size)).map fun q => z.cells[q % z.cells.size]!).toArray) m k j.size ((m : Int) == k) (by omega) (fun he => by simp at he; omega) (by simp)
              simpa using this
          · cases h
        · cases h
      · cases h
    · cases h
  · cases h

/-! ### What writes -/

/-- A store through a pointer. -/
def storeA (T : Ti) (st : St) (t : TypeId) (p v : AV) : Option St :=
  match p, T t with
  | .ptr id off, some i =>
    match st.h.get id with
    | some (.cells none false cs) =>
      if v.cells.length = i.size ∧ off + i.size ≤ cs.length ∧ v.cells.all AV.one then some ⟨st.h.set id (.cells none false (setsL cs off v.cells)), st.n⟩ else none
    | _ => none
  | _, _ => none

theorem setRow_size (w : World) (g : Nat) (cs : Array Value) : (w.setRow g cs).heap.size = w.heap.size := by simp [World.setRow]

theorem setsL_get {α : Type} : ∀ (xs cs : List α) (off i : Nat), off + xs.length ≤ cs.length → (setsL cs off xs)[i]? = if off ≤ i ∧ i < off + xs.length then xs[i - off]? else cs[i]?
  | [], cs, off, i, _ => by simp only [setsL, List.length_nil]; rw [if_neg (by omega)]
  | x :: xs, cs, off, i, h => by
    simp only [List.length_cons] at h
    rw [setsL, setsL_get xs (cs.set off x) (off + 1) i (by simp; omega)]
    by_cases h1 : off + 1 ≤ i ∧ i < off + 1 + xs.length
    · rw [if_pos h1, if_pos (by simp only [List.length_cons]; omega)]
      rw [show i - off = (i - (off + 1)) + 1 from by omega]
      simp
    · rw [if_neg h1]
      by_cases h2 : i = off
      · subst h2
        rw [if_pos (by simp only [List.length_cons]; omega)]
        simp [show i < cs.length from by omega]
      · rw [if_neg (by simp only [List.length_cons]; omega), List.getElem?_set_ne (Ne.symm h2)]

theorem splice_get (c vs : List Value) (o i : Nat) (h : o + vs.length ≤ c.length) : (c.take o ++ vs ++ c.drop (o + vs.length))[i]? = if o ≤ i ∧ i < o + vs.length then vs[i - o]? else c[i]? := by
  have ho : (c.take o).length = o := by simp; omega
  by_cases h1 : i < o
  · rw [if_neg (by omega), List.append_assoc, List.getElem?_append_left (by omega), List.getElem?_take, if_pos h1]
  · by_cases h2 : i < o + vs.length
    · rw [if_pos ⟨by omega, h2⟩, List.append_assoc, List.getElem?_append_right (by omega), ho, List.getElem?_append_left (by omega)]
    · rw [if_neg (by omega), List.getElem?_append_right (by simp; omega), List.getElem?_drop]
      congr 1
      simp; omega

theorem VRL.one {φ : Fi} {as : List AV} {us : List Value} (h : VRL φ as us) (h1 : as.all AV.one = true) : ∀ u ∈ us, u.oneCell' = true := by
  induction as generalizing us with
  | nil => cases h; simp
  | cons a as ih =>
    cases h with
    | cons h t =>
      simp only [List.all_cons, Bool.and_eq_true] at h1
      intro u hu
      rcases List.mem_cons.1 hu with rfl | hu
      · exact h.one h1.1
      · exact ih t h1.2 u hu

theorem store_ok (hT : TOk P T) {φ : Fi} {st st' : St} {w : World} {t : TypeId} {p v : AV} {pv vv : Value} (hr : Rel φ st w) (hp : VR φ p pv) (hv : VR φ v vv) (h : storeA T st t p v = some st') :
    ∃ w', (Instr.storeAt t pv vv).run P w = .ok () w' ∧ Rel φ st' w' ∧ Fr φ st w φ st' w' ∧ st'.n = st.n := by
  unfold storeA at h
  split at h
  · rename_i id off i hi
    split at h
    · rename_i cs ho
      split at h
      · rename_i hc
        cases h
        obtain ⟨c1, c2, c3⟩ := hc
        obtain ⟨rfl, hid⟩ := hp.ptr_inv
        obtain ⟨hcell, hblk⟩ := hr.obj id _ ho
        obtain ⟨c, ty, hb, hcn, hcl⟩ := hblk rfl
        have hvl := hv.cells.length
        have hsz : vv.cells.size = i.size := by rw [← c1, hvl]; simp
        have hrun := run_storeCells_at P (φ.f id).b ((φ.f id).o + off) ty vv.cells.toList 0 c w hb (by simp [hsz]; omega) (hv.cells.one c3)
        simp only [Nat.add_zero] at hrun
        refine ⟨w.setRow (φ.f id).b (c.toList.take ((φ.f id).o + off) ++ vv.cells.toList ++ c.toList.drop ((φ.f id).o + off + vv.cells.toList.length)).toArray, ?_, ?_⟩
        · simp only [Instr.storeAt, Instr.sureAddr, Sem.run_bind, Sem.run_pure, Result.andThen, storeVar, run_size hT hi, hsz, ne_eq, not_true_eq_false, if_false]
          exact hrun
        · have := hr.turn (id := id) (o := .cells none false cs) (o' := .cells none false (setsL cs off v.cells)) (w' := w.setRow (φ.f id).b (c.toList.take ((φ.f id).o + off) ++ vv.cells.toList ++ c.toList.drop ((φ.f id).o + off + vv.cells.toList.length)).toArray) ho rfl rfl rfl rfl rfl (setRow_size _ _ _) (fun k hk => setRow_other w _ k _ hk) ?_
          · exact ⟨this.1, this.2, rfl⟩
          · have hcl' : c.toList.length = (φ.f id).n := by simp [hcn]
            have hvs : vv.cells.toList.length = i.size := by simp [hsz]
            refine ⟨fun k a ha => ?_, fun _ => ⟨_, ty, setRow_heap w _ c _ ty (0, 0) hb, ?_, by rw [setsL_length]; exact hcl⟩⟩
            · have hnew : ∀ j, (w.setRow (φ.f id).b (c.toList.take ((φ.f id).o + off) ++ vv.cells.toList ++ c.toList.drop ((φ.f id).o + off + vv.cells.toList.length)).toArray).cell? ⟨(φ.f id).b, j, none⟩ =
                  if (φ.f id).o + off ≤ j ∧ j < (φ.f id).o + off + vv.cells.toList.length then vv.cells.toList[j - ((φ.f id).o + off)]? else c[j]? := fun j => by
                unfold World.cell?
                simp only [setRow_heap w _ c _ ty (0, 0) hb]
                rw [← Array.getElem?_toList (xs := c), ← splice_get c.toList vv.cells.toList ((φ.f id).o + off) j (by rw [hvs, hcl']; omega)]
                simp
              rw [setsL_get _ _ _ _ (by rw [c1]; exact c2)] at ha
              rw [hnew]
              split at ha
              · rename_i hk
                rw [c1] at hk
                rw [if_pos (by rw [hvs]; omega)]
                obtain ⟨u, hu, hru⟩ := hv.cells.get _ _ ha
                exact ⟨u, by rw [show (φ.f id).o + k - ((φ.f id).o + off) = k - off from by omega]; exact hu, hru⟩
              · rename_i hk
                rw [c1] at hk
                rw [if_neg (by rw [hvs]; omega)]
                obtain ⟨u, hu, hru⟩ := hcell k a ha
                refine ⟨u, ?_, hru⟩
                unfold World.cell? at hu
                simpa [hb] using hu
            · simp only [List.size_toArray, List.length_append, List.length_take, List.length_drop, hcl', hvs]
              omega
      · cases h
    · cases h
  · cases h

end
end Go.Ev
