/- Own work of the verifier of watercress: FzC, FzD. -/
import Derived.Test.YtpefamheopplnaaMm0
import Derived.Laws.AppendOwn
import Derived.Laws.CopyRow
set_option linter.unusedVariables false
set_option linter.unusedSimpArgs false
namespace Go.Fz
def setsL {α : Type} : List α → Nat → List α → List α
  | cs, _, [] => cs
  | cs, off, x :: xs => setsL (cs.set off x) (off + 1) xs
theorem setsL_length {α : Type} : ∀ (xs cs : List α) (off : Nat), (setsL cs off xs).length = cs.length
  | [], _, _ => rfl
  | x :: xs, cs, off => by simp [setsL, setsL_length xs]
theorem VRL.sets {φ : Fi} : ∀ {xs : List AV} {vs : List Value} {cs : List AV} {us : List Value} (off : Nat), VRL φ xs vs → VRL φ cs us → VRL φ (setsL cs off xs) (setsL us off vs)
  | [], _, _, _, _, h, k => by cases h; exact k
  | _ :: _, _, _, _, off, h, k => by
    cases h with | cons h t => exact VRL.sets (off + 1) t (k.set off h)
def fillA (place : Nat → Option (Nat × Nat)) (cells : List AV) : List (Nat × AV) → Option (List AV)
  | [] => some cells
  | (i, v) :: rest =>
    match place i with
    | none => none
    | some (off, size) =>
      if v.cells.length = 0 ∨ v.cells.length ≠ size ∨ off + v.cells.length > cells.length then none
      else fillA place (setsL cells off v.cells) rest
theorem fold_sets (off : Nat) : ∀ (xs us : List Value) (k : Nat), ((xs.zipIdx k).foldl (fun (cs : Array Value) (p : Value × Nat) => cs.setIfInBounds (off + p.2) p.1) us.toArray) = (setsL us (off + k) xs).toArray
  | [], us, k => by simp [setsL]
  | x :: xs, us, k => by
    simp only [List.zipIdx_cons, List.foldl_cons, setsL]
    rw [List.setIfInBounds_toArray]
    exact fold_sets off xs (us.set (off + k) x) (k + 1)
theorem fill_ok {φ : Fi} {place : Nat → Option (Nat × Nat)} {ρa : Operand → AV} {ρ : Operand → Value} (hρ : OpR φ ρa ρ) : ∀ (parts : List (Nat × Operand)) {cells : List AV} {us : List Value} {r : List AV}, VRL φ cells us →
    fillA place cells (parts.map fun p => (p.1, ρa p.2)) = some r → ∃ rs : List Value, Instr.fill place us.toArray (parts.map fun p => (p.1, ρ p.2)) = some rs.toArray ∧ VRL φ r rs
  | [], _, us, _, hc, h => by simp only [List.map_nil, fillA, Option.some.injEq] at h; subst h; exact ⟨us, rfl, hc⟩
  | (i, x) :: rest, cells, us, r, hc, h => by
    simp only [List.map_cons, fillA] at h
    split at h
    · cases h
    · rename_i off size hp
      split at h
      · cases h
      · rename_i hn
        have hn0 : 0 < (ρa x).cells.length := by omega
        have hv := (hρ x).cells hn0
        have hl := hv.length
        have hl2 := hc.length
        have h1 : (ρ x).cells.size = (ρa x).cells.length := by rw [hl]; simp
        obtain ⟨rs, h2, h3⟩ := fill_ok hρ rest (hv.sets off hc) h
        refine ⟨rs, ?_, h3⟩
        simp only [List.map_cons, Instr.fill, hp]
        have hcond : ((ρ x).cells.size ≠ size || off + (ρ x).cells.size > us.toArray.size) = false := by
          rw [not_or, not_or] at hn
          replace hn := hn.2
          rw [h1]
          simp only [List.size_toArray, ne_eq, Bool.or_eq_false_iff, decide_eq_false_iff_not]
          exact ⟨hn.1, by have := hn.2; omega⟩
        simp only [ne_eq, Bool.or_eq_true, decide_eq_true_eq] at hcond ⊢
        rw [if_neg (by simpa using hcond)]
        rw [← h2]
        congr 1
        rw [← Array.foldl_toList, Array.toList_zipIdx]
        exact fold_sets off _ us 0
def zerosA (i : TI) (n : Nat) : List AV := (List.range n).map fun k => .lit (i.zero[k % i.zero.length]!)
def evF (T : Ti) (n : Nat) (ρ : Operand → AV) (o : Oper) : Option (AV × List AV) :=
  match o.op with
  | .alloc e => match T e with
    | some i => some (.ptr n 0, (i.zero.map .lit).map AV.norm)
    | none => none
  | .box _ x => if (ρ x).cells.length = 0 then none else some (.ptr n 0, (ρ x).cells.map AV.norm)
  | .buildSlice t len parts => match T t with
    | some i => match i.desc with
      | .slice e => match T e with
        | some j =>
          if j.size = 0 ∨ len * j.size > 16777216 ∨ j.zero.length ≠ j.size then none else
          match fillA (fun k => some (k * j.size, j.size)) (zerosA j (len * j.size)) (parts.toList.map fun p => (p.1, ρ p.2)) with
          | some cs => some (.sl n 0 len j.size true, cs)
          | none => none
        | none => none
      | _ => none
    | none => none
  | .makeSlice t l c => match T t, ρ l, ρ c with
    | some i, .lit (.int .i64 a), .lit (.int .i64 b) => match i.desc with
      | .slice e => match T e with
        | some j => if 0 ≤ a ∧ a ≤ b ∧ b ≤ 65536 ∧ j.bytes ≤ 65536 ∧ j.size ≠ 0 ∧ j.zero.length = j.size then some (.sl n 0 a.toNat j.size (a == b), zerosA j (b.toNat * j.size)) else none
        | none => none
      | _ => none
    | _, _, _ => none
  | _ => none
section
variable {P : Program} {T : Ti}
theorem zeros_ok (φ : Fi) {j : TI} {z : Value} (hz : z.cells.toList = j.zero) (n : Nat) : VRL φ (zerosA j n) ((List.range n).map fun k => z.cells[k % z.cells.size]!) := by
  unfold zerosA
  have hs : z.cells.size = j.zero.length := by rw [← hz]; simp
  refine VRL.of_get (by simp) fun i a u ha hu => ?_
  simp only [List.getElem?_map] at ha hu
  cases hr : (List.range n)[i]? with
  | none => simp [hr] at ha
  | some k =>
    simp only [hr, Option.map_some, Option.some.injEq] at ha hu
    subst ha; subst hu
    have : z.cells[k % z.cells.size]! = j.zero[k % j.zero.length]! := by
      rw [hs, ← hz]
      simp [getElem!_def]
    rw [this]; exact .lit _
theorem range_map {α : Type} (f : Nat → α) (n : Nat) : Array.map f (Array.range n) = ((List.range n).map f).toArray := by
  apply Array.ext'
  simp
theorem run_newRow (e : TypeId) (c : Array Value) (w : World) : (newRow e c).run P w = .ok ⟨w.heap.size, 0, none⟩ (w.alloc (.cells c e)) := rfl
theorem evF_ok (hT : TOk P T) {φ : Fi} {ρa : Operand → AV} {ρ : Operand → Value} {o : Oper} {a : AV} {cs : List AV} (hρ : OpR φ ρa ρ) (h : evF T φ.n ρa o = some (a, cs)) :
    ∃ (c : Array Value) (t : TypeId), VRL φ cs c.toList ∧ ∀ w : World, ∃ u, (execOp ρ o).run P w = .ok (.value u) (w.alloc (.cells c t)) ∧ VR (φ.push ⟨w.heap.size, 0, c.size⟩) a u := by
  have hptr : ∀ (w : World) (c : Array Value), VR (φ.push ⟨w.heap.size, 0, c.size⟩) (.ptr φ.n 0) (.pointer (some ⟨w.heap.size, 0, none⟩)) := fun w c => by
    have := VR.ptr (φ := φ.push ⟨w.heap.size, 0, c.size⟩) φ.n 0 (by simp [Fi.push])
    rwa [Fi.push_new] at this
  have hsl : ∀ (w : World) (c : Array Value) (len cap sz : Nat) (ex : Bool), len ≤ cap → (ex = true → cap = len) → cap * sz ≤ c.size → VR (φ.push ⟨w.heap.size, 0, c.size⟩) (.sl φ.n 0 len sz ex) (.slice (some ⟨w.heap.size, 0, none⟩) len cap) := fun w c len cap sz ex h1 h2 h3 => by
    have := VR.sl (φ := φ.push ⟨w.heap.size, 0, c.size⟩) φ.n 0 len sz ex cap (by simp [Fi.push]) h1 h2 (by rw [Fi.push_new]; simpa using h3)
    rwa [Fi.push_new] at this
  unfold evF at h
  split at h
  · rename_i e hx
    split at h
    · rename_i i hi
      cases h
      obtain ⟨z, hz, hz2⟩ := run_zero (P := P) hT hi default
      have hzw : ∀ w : World, (zeroValue e).run P w = .ok z w := fun w => by
        obtain ⟨z', h1, _⟩ := run_zero (P := P) hT hi w
        have h2 := (hT e i hi).info
        obtain ⟨ti, z2, h3, _, _, h4, _⟩ := h2
        have h5 : ∀ w : World, (zeroValue e).run P w = .ok z2 w := fun w => by simp [zeroValue, typeInfo, Sem.run_bind, program, Sem.run, Result.andThen, h3, h4]
        rw [h5 default] at hz
        injection hz with hz _
        rw [h5 w, hz]
      refine ⟨z.cells, e, by rw [hz2]; exact (VRL.lits _).norm, fun w => ⟨_, ?_, hptr w _⟩⟩
      simp only [execOp, hx, Instr.alloc, Sem.run_bind, hzw, Result.andThen, newVar, run_newRow, Sem.run_pure]
    · cases h
  · rename_i e x hx
    split at h
    · cases h
    rename_i hne
    cases h
    refine ⟨(ρ x).cells, e, ((hρ x).cells (by omega)).norm, fun w => ⟨_, ?_, hptr w _⟩⟩
    simp only [execOp, hx, Instr.box, Sem.run_bind, Result.andThen, newVar, run_newRow, Sem.run_pure]
  · rename_i t len parts hx
    split at h
    · rename_i i hi
      split at h
      · rename_i e hd
        split at h
        · rename_i j hj
          split at h
          · cases h
          · rename_i hn
            rw [not_or, not_or] at hn
            split at h
            · rename_i cs' hf
              cases h
              obtain ⟨z, hz, hz2⟩ : ∃ z, (∀ w : World, (zeroValue e).run P w = .ok z w) ∧ z.cells.toList = j.zero := by
                obtain ⟨ti, z2, h3, _, _, h4, h5⟩ := (hT e j hj).info
                exact ⟨z2, fun w => by simp [zeroValue, typeInfo, Sem.run_bind, program, Sem.run, Result.andThen, h3, h4], h5⟩
              obtain ⟨rs, h1, h2⟩ := fill_ok hρ parts.toList (zeros_ok φ hz2 (len * j.size)) hf
              have hlen : rs.length = len * j.size := by
                rw [← h2.length]
                have : ∀ (l : List (Nat × AV)) (c r : List AV), fillA (fun k => some (k * j.size, j.size)) c l = some r → r.length = c.length := fun l => by
                  induction l with
                  | nil => intro c r h; simp only [fillA, Option.some.injEq] at h; rw [h]
                  | cons p l ih =>
                    intro c r h
                    obtain ⟨q, v⟩ := p
                    simp only [fillA] at h
                    split at h
                    · cases h
                    · rw [ih _ _ h, setsL_length]
                rw [this _ _ _ hf]
                simp [zerosA]
              refine ⟨rs.toArray, e, by simpa using h2, fun w => ⟨_, ?_, hsl w _ len len j.size true (Nat.le_refl _) (fun _ => rfl) (by simp [hlen])⟩⟩
              have h0 : ¬ (len * j.size > 2 ^ 24) := by have := hn.2.1; simpa using this
              have hpm : (Array.map (fun x => (x.fst, ρ x.snd)) parts).toList = parts.toList.map fun p => (p.1, ρ p.2) := by simp
              simp only [execOp, hx, Instr.buildSlice, Sem.run_bind, run_und hT hi, hd, Result.andThen, run_size hT hj, h0, if_false, Sem.run_pure]
              by_cases hz0 : len * j.size = 0
              · simp only [hz0] at h1
                simp only [List.range_zero, List.map_nil] at h1
                simp only [hz0, if_true, hpm, range_map, List.range_zero, List.map_nil, Sem.run_pure, h1, Sem.run_bind, run_newRow, Result.andThen]
              · simp only [hz0, if_false, Sem.run_bind, hz, Result.andThen, Sem.run_pure]
                simp only [hpm, range_map, h1, Sem.run_bind, run_newRow, Result.andThen, Sem.run_pure]
            · cases h
        · cases h
      · cases h
    · cases h
  · rename_i t l c hx
    split at h
    · rename_i i x y hi hl hc
      split at h
      · rename_i e hd
        split at h
        · rename_i j hj
          split at h
          · rename_i hb
            cases h
            obtain ⟨b1, b2, b3, b4, b5, b6⟩ := hb
            obtain ⟨m, rfl⟩ := Int.eq_ofNat_of_zero_le b1
            obtain ⟨k, rfl⟩ := Int.eq_ofNat_of_zero_le (Int.le_trans b1 b2)
            have hlv : ρ l = .int .i64 m := by have := hρ l; rw [hl] at this; exact this.lit_inv
            have hcv : ρ c = .int .i64 k := by have := hρ c; rw [hc] at this; exact this.lit_inv
            obtain ⟨ti, z, h3, h6, h7, h4, h5⟩ := (hT e j hj).info
            have hzw : ∀ w : World, (zeroValue e).run P w = .ok z w := fun w => by simp [zeroValue, typeInfo, Sem.run_bind, program, Sem.run, Result.andThen, h3, h4]
            have hiw : ∀ w : World, (typeInfo e).run P w = .ok ti w := fun w => by simp [typeInfo, Sem.run_bind, program, Sem.run, Result.andThen, h3]
            refine ⟨((List.range (k * j.size)).map fun q => z.cells[q % z.cells.size]!).toArray, e, by simpa using zeros_ok φ h5 (k * j.size), fun w => ⟨.slice (some ⟨w.heap.size, 0, none⟩) m k, ?_, ?_⟩⟩
            · have w1 : IntKind.i64.wrap (m : Int) = m := wrap_in _ _ ⟨by simp only [IntKind.lo]; omega, by simp only [IntKind.hi]; omega⟩
              have w2 : IntKind.i64.wrap (k : Int) = k := wrap_in _ _ ⟨by simp only [IntKind.lo]; omega, by simp only [IntKind.hi]; omega⟩
              have hkb : k * ti.bytes ≤ 65536 * 65536 := Nat.mul_le_mul (by omega) (by omega)
              have hbk : (ti.bytes : Int) * (k : Int) ≤ 65536 * 65536 := by
                have : ((ti.bytes * k : Nat) : Int) ≤ ((65536 * 65536 : Nat) : Int) := by rw [Nat.mul_comm]; exact Int.ofNat_le.2 hkb
                simpa using this
              have hc1 : ((decide ((k : Int) < 0) || decide ((ti.bytes : Int) * (k : Int) > 2 ^ 48)) || decide ((m : Int) < 0) || decide ((m : Int) > (k : Int))) = false := by
                simp only [Bool.or_eq_false_iff, decide_eq_false_iff_not]
                refine ⟨⟨⟨by omega, by omega⟩, by omega⟩, by omega⟩
              have hroom : (askRoom (k * ti.bytes)).run P w = .ok () w := by
                unfold askRoom roomBytes
                rw [if_neg (by omega)]; rfl
              simp only [execOp, hx, Instr.makeSlice, Sem.run_bind, run_und hT hi, hd, Result.andThen, hlv, hcv, asInt, asIntOf, Sem.run_pure, hiw, w1, w2, hc1, Bool.false_eq_true, if_false, Int.toNat_natCast, hroom, run_size hT hj]
              by_cases h0 : k * j.size = 0
              · simp only [h0, if_true, range_map, List.range_zero, List.map_nil, Sem.run_bind, Sem.run_pure, Result.andThen, run_newRow]
              · simp only [h0, if_false, Sem.run_bind, hzw, Result.andThen, Sem.run_pure, range_map, run_newRow]
            · have := hsl w (((List.range (k * j.size)).map fun q => z.cells[q % z.cells.size]!).toArray) m k j.size ((m : Int) == k) (by omega) (fun he => by simp at he; omega) (by simp)
              simpa using this
          · cases h
        · cases h
      · cases h
    · cases h
  · cases h
def storeA (T : Ti) (st : St) (t : TypeId) (p v : AV) : Option St :=
  match ptrOf p, T t with
  | some (id, off), some i =>
    match st.h.get id with
    | some (.cells none false cs) =>
      if v.cells.length = i.size ∧ off + i.size ≤ cs.length ∧ v.cells.all AV.one ∧ 0 < v.cells.length then some ⟨st.h.set id (.cells none false (setsL cs off (v.cells.map AV.norm))), st.n⟩ else none
    | _ => none
  | _, _ => none
theorem setRow_size (w : World) (g : Nat) (cs : Array Value) : (w.setRow g cs).heap.size = w.heap.size := by simp [World.setRow]
theorem setsL_get {α : Type} : ∀ (xs cs : List α) (off i : Nat), off + xs.length ≤ cs.length → (setsL cs off xs)[i]? = if off ≤ i ∧ i < off + xs.length then xs[i - off]? else cs[i]?
  | [], cs, off, i, _ => by simp only [setsL, List.length_nil]; rw [if_neg (by omega)]
  | x :: xs, cs, off, i, h => by
    simp only [List.length_cons] at h
    rw [setsL, setsL_get xs (cs.set off x) (off + 1) i (by simp; omega)]
    by_cases h1 : off + 1 ≤ i ∧ i < off + 1 + xs.length
    · rw [if_pos h1, if_pos (by simp only [List.length_cons]; omega)]
      rw [show i - off = (i - (off + 1)) + 1 from by omega]
      simp
    · rw [if_neg h1]
      by_cases h2 : i = off
      · subst h2
        rw [if_pos (by simp only [List.length_cons]; omega)]
        simp [show i < cs.length from by omega]
      · rw [if_neg (by simp only [List.length_cons]; omega), List.getElem?_set_ne (Ne.symm h2)]
theorem splice_get (c vs : List Value) (o i : Nat) (h : o + vs.length ≤ c.length) : (c.take o ++ vs ++ c.drop (o + vs.length))[i]? = if o ≤ i ∧ i < o + vs.length then vs[i - o]? else c[i]? := by
  have ho : (c.take o).length = o := by simp; omega
  by_cases h1 : i < o
  · rw [if_neg (by omega), List.append_assoc, List.getElem?_append_left (by omega), List.getElem?_take, if_pos h1]
  · by_cases h2 : i < o + vs.length
    · rw [if_pos ⟨by omega, h2⟩, List.append_assoc, List.getElem?_append_right (by omega), ho, List.getElem?_append_left (by omega)]
    · rw [if_neg (by omega), List.getElem?_append_right (by simp; omega), List.getElem?_drop]
      congr 1
      simp; omega
theorem VRL.one {φ : Fi} {as : List AV} {us : List Value} (h : VRL φ as us) (h1 : as.all AV.one = true) : ∀ u ∈ us, u.oneCell' = true := by
  induction as generalizing us with
  | nil => cases h; simp
  | cons a as ih =>
    cases h with
    | cons h t =>
      simp only [List.all_cons, Bool.and_eq_true] at h1
      intro u hu
      rcases List.mem_cons.1 hu with rfl | hu
      · exact h.one h1.1
      · exact ih t h1.2 u hu
theorem store_ok (hT : TOk P T) {φ : Fi} {st st' : St} {w : World} {t : TypeId} {p v : AV} {pv vv : Value} (hr : Rel φ st w) (hp : VR φ p pv) (hv : VR φ v vv) (h : storeA T st t p v = some st') :
    ∃ w', (Instr.storeAt t pv vv).run P w = .ok () w' ∧ Rel φ st' w' ∧ Fr φ st w φ st' w' ∧ st'.n = st.n := by
  unfold storeA at h
  split at h
  · rename_i id off i hpt hi
    replace hp := ptrOf_ok hpt hp
    split at h
    · rename_i cs ho
      split at h
      · rename_i hc
        cases h
        obtain ⟨c1, c2, c3, c4⟩ := hc
        have hv0 := hv.cells c4
        have c3' := hv0.one c3
        have hv := hv0.norm
        have c1 : (v.cells.map AV.norm).length = i.size := by rw [List.length_map]; exact c1
        generalize v.cells.map AV.norm = vc at *
        obtain ⟨rfl, hid⟩ := hp.ptr_inv
        obtain ⟨hcell, hblk⟩ := hr.obj id _ ho
        obtain ⟨c, ty, hb, hcn, hcl⟩ := hblk rfl
        have hvl := hv.length
        have hsz : vv.cells.size = i.size := by rw [← c1, hvl]; simp
        have hrun := run_storeCells_at P (φ.f id).b ((φ.f id).o + off) ty vv.cells.toList 0 c w hb (by simp [hsz]; omega) c3'
        simp only [Nat.add_zero] at hrun
        refine ⟨w.setRow (φ.f id).b (c.toList.take ((φ.f id).o + off) ++ vv.cells.toList ++ c.toList.drop ((φ.f id).o + off + vv.cells.toList.length)).toArray, ?_, ?_⟩
        · simp only [Instr.storeAt, Instr.sureAddr, Sem.run_bind, Sem.run_pure, Result.andThen, storeVar, run_size hT hi, hsz, ne_eq, not_true_eq_false, if_false]
          exact hrun
        · have := hr.turn (id := id) (o := .cells none false cs) (o' := .cells none false (setsL cs off vc)) (w' := w.setRow (φ.f id).b (c.toList.take ((φ.f id).o + off) ++ vv.cells.toList ++ c.toList.drop ((φ.f id).o + off + vv.cells.toList.length)).toArray) ho rfl rfl rfl rfl rfl rfl (setRow_size _ _ _) (fun k hk => setRow_other w _ k _ hk) ?_
          · exact ⟨this.1, this.2, rfl⟩
          · have hcl' : c.toList.length = (φ.f id).n := by simp [hcn]
            have hvs : vv.cells.toList.length = i.size := by simp [hsz]
            refine ⟨fun k a ha => ?_, fun _ => ⟨_, ty, setRow_heap w _ c _ ty (0, 0) hb, ?_, by rw [setsL_length]; exact hcl⟩⟩
            · have hnew : ∀ j, (w.setRow (φ.f id).b (c.toList.take ((φ.f id).o + off) ++ vv.cells.toList ++ c.toList.drop ((φ.f id).o + off + vv.cells.toList.length)).toArray).cell? ⟨(φ.f id).b, j, none⟩ =
                  if (φ.f id).o + off ≤ j ∧ j < (φ.f id).o + off + vv.cells.toList.length then vv.cells.toList[j - ((φ.f id).o + off)]? else c[j]? := fun j => by
                unfold World.cell?
                simp only [setRow_heap w _ c _ ty (0, 0) hb]
                rw [← Array.getElem?_toList (xs := c), ← splice_get c.toList vv.cells.toList ((φ.f id).o + off) j (by rw [hvs, hcl']; omega)]
                simp
              rw [setsL_get _ _ _ _ (by rw [c1]; exact c2)] at ha
              rw [hnew]
              split at ha
              · rename_i hk
                rw [c1] at hk
                rw [if_pos (by rw [hvs]; omega)]
                obtain ⟨u, hu, hru⟩ := hv.get _ _ ha
                exact ⟨u, by rw [show (φ.f id).o + k - ((φ.f id).o + off) = k - off from by omega]; exact hu, hru⟩
              · rename_i hk
                rw [c1] at hk
                rw [if_neg (by rw [hvs]; omega)]
                obtain ⟨u, hu, hru⟩ := hcell k a ha
                refine ⟨u, ?_, hru⟩
                unfold World.cell? at hu
                simpa [hb] using hu
            · simp only [List.size_toArray, List.length_append, List.length_take, List.length_drop, hcl', hvs]
              omega
      · cases h
    · cases h
  · cases h
end
end Go.Fz
namespace Go.Fz
def trunc1 (f X : Nat) (b : Bool) : AObj → AObj
  | .cells fm ro cs => if fm = some f ∨ b = true then .cells (some f) ro (cs.take X) else .cells fm ro cs
  | o => o
def truncH (f X id : Nat) : Hp → Hp
  | [] => []
  | (j, o) :: r => (j, trunc1 f X (j == id) o) :: truncH f X id r
theorem truncH_get (f X id : Nat) (h : Hp) (j : Nat) : (truncH f X id h).get j = (h.get j).map (trunc1 f X (j == id)) := by
  induction h with
  | nil => rfl
  | cons p r ih =>
    obtain ⟨i, o⟩ := p
    by_cases hi : i = j
    · subst hi; simp [truncH, Hp.get]
    · simp [truncH, Hp.get, hi, ih]
theorem trunc1_own (f X : Nat) (b : Bool) (o : AObj) : (trunc1 f X b o).own = o.own := by
  cases o <;> simp only [trunc1] <;> try rfl
  split <;> rfl
theorem trunc1_fam (f X : Nat) (b : Bool) (o : AObj) {g : Nat} (h : o.fam = some g) (hb : b = true → g = f) : (trunc1 f X b o).fam = some g := by
  cases o with
  | cells fm ro cs =>
    simp only [AObj.fam] at h
    subst h
    simp only [trunc1]
    split
    · rename_i hc
      rcases hc with hc | hc
      · cases hc; rfl
      · rw [hb hc]; rfl
    · rfl
  | loop r => cases h
  | dfr => cases h
  | map es clock => cases h
  | iter mid since seen last => cases h
theorem ObjR.take {φ : Fi} {w : World} {id : Nat} {fm fm' : Option Nat} {ro : Bool} {cs : List AV} (X : Nat) (h : ObjR φ w id (.cells fm ro cs)) : ObjR φ w id (.cells fm' ro (cs.take X)) := by
  refine ⟨fun i a ha => h.1 i a ?_, fun hro => ?_⟩
  · rw [List.getElem?_take] at ha
    split at ha
    · exact ha
    · cases ha
  · obtain ⟨c, t, h1, h2, h3⟩ := h.2 hro
    exact ⟨c, t, h1, h2, by simp only [List.length_take]; omega⟩
theorem Rel.trunc {φ : Fi} {st : St} {w : World} (hr : Rel φ st w) {id : Nat} {fm : Option Nat} {cs : List AV} (ho : st.h.get id = some (.cells fm false cs)) (X : Nat) :
    Rel φ ⟨truncH (fm.getD id) X id st.h, st.n⟩ w ∧ Fr φ st w φ ⟨truncH (fm.getD id) X id st.h, st.n⟩ w := by
  have hget : ∀ j x, (truncH (fm.getD id) X id st.h).get j = some x → ∃ o, st.h.get j = some o ∧ x = trunc1 (fm.getD id) X (j == id) o := fun j x hx => by
    rw [truncH_get] at hx
    cases hj : st.h.get j with
    | none => simp [hj] at hx
    | some o => simp only [hj, Option.map_some, Option.some.injEq] at hx; exact ⟨o, rfl, hx.symm⟩
  refine mkRel hr rfl hr.n (fun j x hx => ?_) (fun j x hx => ?_) (fun j x hx => ?_) (fun i j oi oj hi hj hij hio hb => ?_) (fun j x g hx hg => ?_) ⟨rfl, rfl, rfl, Nat.le_refl _, fun _ _ _ => rfl, fun k hk => ?_, fun _ _ h => .inl h⟩
  · obtain ⟨o, h, _⟩ := hget j x hx; exact hr.lt j o h
  · obtain ⟨o, h, _⟩ := hget j x hx; exact hr.blk j o h
  · obtain ⟨o, h, rfl⟩ := hget j x hx
    have h1 := hr.obj j o h
    cases o with
    | cells f2 ro2 cs2 =>
      simp only [trunc1]
      split
      · exact h1.take X
      · exact h1
    | loop r => exact h1
    | dfr => exact h1
    | map es clock => exact h1
    | iter mid since seen last => exact h1
  · obtain ⟨o1, h1, rfl⟩ := hget i oi hi
    obtain ⟨o2, h2, rfl⟩ := hget j oj hj
    rw [trunc1_own] at hio ⊢
    obtain ⟨⟨f, hf1, hf2⟩, h3, h4, h5⟩ := hr.sep i j o1 o2 h1 h2 hij hio hb
    have key : ∀ k o, st.h.get k = some o → o.fam = some f → (k == id) = true → f = fm.getD id := fun k o hk hfk hki => by
      have : k = id := by simpa using hki
      subst this
      rw [ho] at hk; cases hk
      simp only [AObj.fam] at hfk
      rw [hfk]; rfl
    exact ⟨⟨f, trunc1_fam _ _ _ _ hf1 (key i o1 h1 hf1), trunc1_fam _ _ _ _ hf2 (key j o2 h2 hf2)⟩, h3, h4, h5⟩
  · obtain ⟨o, h, rfl⟩ := hget j x hx
    have hdef : fm.getD id < st.n := by
      cases fm with
      | none => exact hr.lt id _ ho
      | some f => exact hr.fam id _ f ho rfl
    cases o with
    | cells f2 ro2 cs2 =>
      simp only [trunc1] at hg
      split at hg
      · simp only [AObj.fam, Option.some.injEq] at hg; subst hg; exact hdef
      · exact hr.fam j _ g h hg
    | loop r => cases hg
    | dfr => cases hg
    | map es clock => cases hg
    | iter mid since seen last => cases hg
  · obtain ⟨j, x, hx, hxo, hb⟩ := hk
    obtain ⟨o, h, rfl⟩ := hget j x hx
    rw [trunc1_own] at hxo
    exact .inl ⟨j, o, h, hxo, hb⟩
theorem Rel.alias {φ : Fi} {st : St} {w : World} (hr : Rel φ st w) (a : AObj) (l : Loc) {id : Nat} {o : AObj} (ho : st.h.get id = some o) (hown : o.own = true) (hl : (φ.f id).b = l.b) (haown : a.own = true)
    (hobj : ObjR (φ.push l) w φ.n a) (hfm : ∀ f, a.fam = some f → f < st.n) (hsep : ∀ j oj, st.h.get j = some oj → (φ.f j).b = l.b → Mates a oj ∧ oj.own = true ∧ (φ.f j).o = l.o ∧ (φ.f j).n = l.n) :
    Rel (φ.push l) (st.push a) w ∧ Fr φ st w (φ.push l) (st.push a) w := by
  have hold : ∀ id x, st.h.get id = some x → id < φ.n ∧ (φ.push l).f id = φ.f id := fun id x hx => by
    have h1 := hr.lt id x hx
    rw [← hr.n] at h1
    exact ⟨h1, (φ.push_ext l).f id h1⟩
  refine mkRel hr rfl (by simp [Fi.push, St.push, hr.n]) (fun id x hx => ?_) (fun id x hx => ?_) (fun id x hx => ?_) (fun i j oi oj hi hj hij hio hb => ?_) (fun id x f hx hxf => ?_) ⟨rfl, rfl, rfl, Nat.le_refl _, fun _ _ _ => rfl, fun k hk => ?_, fun _ _ h => .inl h⟩
  · rw [St.get_push] at hx
    split at hx
    · show _ < st.n + 1; omega
    · show _ < st.n + 1; have := hr.lt id x hx; omega
  · rw [St.get_push] at hx
    split at hx
    · rename_i h; rw [← hr.n] at h; subst h; rw [Fi.push_new, ← hl]; exact hr.blk _ _ ho
    · rw [(hold id x hx).2]; exact hr.blk id x hx
  · rw [St.get_push] at hx
    split at hx
    · rename_i h; rw [← hr.n] at h; subst h; cases hx; exact hobj
    · exact (hr.obj id x hx).same (φ.push_ext l) (hold id x hx).1 rfl
  · rw [St.get_push] at hi hj
    split at hi
    · rename_i h1
      rw [← hr.n] at h1; subst h1
      cases hi
      split at hj
      · rename_i h2; rw [← hr.n] at h2; exact absurd h2 hij
      · rw [Fi.push_new, (hold j oj hj).2] at hb ⊢
        obtain ⟨h1, h2, h3, h4⟩ := hsep j oj hj hb.symm
        exact ⟨h1, h2, h3.symm, h4.symm⟩
    · split at hj
      · rename_i h2
        rw [← hr.n] at h2; subst h2
        cases hj
        rw [Fi.push_new, (hold i oi hi).2] at hb ⊢
        obtain ⟨⟨f, hf1, hf2⟩, h2, h3, h4⟩ := hsep i oi hi hb
        exact ⟨⟨f, hf2, hf1⟩, haown, h3, h4⟩
      · rw [(hold i oi hi).2, (hold j oj hj).2] at hb ⊢
        exact hr.sep i j oi oj hi hj hij hio hb
  · rw [St.get_push] at hx
    split at hx
    · cases hx; have := hfm f hxf; show _ < st.n + 1; omega
    · have := hr.fam id x f hx hxf; show _ < st.n + 1; omega
  · obtain ⟨j, x, hx, ho', hb⟩ := hk
    rw [St.get_push] at hx
    split at hx
    · rename_i h; rw [← hr.n] at h; subst h; rw [Fi.push_new] at hb; left; exact ⟨id, o, ho, hown, by rw [hl]; exact hb⟩
    · left; exact ⟨j, x, hx, ho', by rw [← (hold j x hx).2]; exact hb⟩
theorem Rel.beyond {φ : Fi} {st : St} {w : World} (hr : Rel φ st w) {b X : Nat} {c c' : Array Value} {t : TypeId} (hb : w.heap[b]? = some (.cells c t (0, 0))) (hsz : c'.size = c.size)
    (hall : ∀ j oj, st.h.get j = some oj → (φ.f j).b = b → ∃ fm cs, oj = .cells fm false cs ∧ (φ.f j).o + cs.length ≤ X) (hc : ∀ i, i < X → c'[i]? = c[i]?) (hown : Owns φ st b) :
    Rel φ st (w.setRow b c') ∧ Fr φ st w φ st (w.setRow b c') := by
  refine mkRel hr rfl hr.n hr.lt (fun j x hx => by rw [setRow_size]; exact hr.blk j x hx) (fun j x hx => ?_) hr.sep hr.fam ⟨rfl, rfl, rfl, by rw [setRow_size]; exact Nat.le_refl _, fun k _ hn => setRow_other w b k c' (fun e => hn (e ▸ hown)), fun k hk => .inl hk, fun _ _ h => .inl h⟩
  by_cases hj : (φ.f j).b = b
  · obtain ⟨fm, cs, rfl, hlen⟩ := hall j x hx hj
    obtain ⟨h1, h2⟩ := hr.obj j _ hx
    refine ⟨fun i a ha => ?_, fun hro => ?_⟩
    · obtain ⟨v, hv, hrv⟩ := h1 i a ha
      refine ⟨v, ?_, hrv⟩
      have hi : i < cs.length := (List.getElem?_eq_some_iff.1 ha).1
      unfold World.cell? at hv ⊢
      rw [hj] at hv ⊢
      simp only [hb] at hv
      simp only [setRow_heap w b c c' t (0, 0) hb]
      have := hc ((φ.f j).o + i) (by omega)
      simpa [this] using hv
    · obtain ⟨c2, t2, h3, h4, h5⟩ := h2 hro
      rw [hj] at h3
      rw [hb] at h3
      cases h3
      exact ⟨c', t, by rw [hj]; exact setRow_heap w b c c' t (0, 0) hb, by rw [hsz]; exact h4, h5⟩
  · exact (hr.obj j x hx).same (Ext.refl _) (by rw [hr.n]; exact hr.lt j x hx) (setRow_other w b _ c' hj)
def flatG (sz : Nat) (g : Nat → Nat → AV) : Nat → List AV
  | 0 => []
  | n + 1 => flatG sz g n ++ cellsFrom (g n) 0 sz
theorem flatG_length (sz : Nat) (g : Nat → Nat → AV) : ∀ n, (flatG sz g n).length = n * sz
  | 0 => by simp [flatG]
  | n + 1 => by simp [flatG, flatG_length sz g n, cellsFrom_length, Nat.add_mul]
theorem flatG_get (sz : Nat) (g : Nat → Nat → AV) : ∀ n i k, i < n → k < sz → (flatG sz g n)[i * sz + k]? = some (g i k)
  | 0, i, k, h, _ => by omega
  | n + 1, i, k, h, hk => by
    simp only [flatG]
    by_cases hi : i = n
    · subst hi
      rw [List.getElem?_append_right (by rw [flatG_length]; omega), flatG_length, show i * sz + k - i * sz = k from by omega, cellsFrom_get, if_pos hk]
      simp
    · have h1 : i < n := by omega
      have h2 : i * sz + k < n * sz := by
        have := Nat.mul_le_mul_right sz (show i + 1 ≤ n from h1)
        rw [Nat.add_mul] at this
        omega
      rw [List.getElem?_append_left (by rw [flatG_length]; exact h2)]
      exact flatG_get sz g n i k h1 hk
def slCells (h : Hp) (sz : Nat) : AV → Option (List AV)
  | .isl len sz' _ g => if sz' = sz ∧ sz ≠ 0 then some (flatG sz g len) else none
  | .lit (.slice none 0 0) => some []
  | .sl id off len sz' _ => match cellsAt h id with
    | some cs => if sz' = sz ∧ off + len * sz ≤ cs.length then some ((cs.drop off).take (len * sz)) else none
    | none => none
  | _ => none
def slLen : AV → Nat
  | .isl len _ _ _ => len
  | .sl _ _ len _ _ => len
  | _ => 0
theorem slLen_sl (id off len sz : Nat) (ex : Bool) : slLen (.sl id off len sz ex) = len := rfl
def appendA (T : Ti) (st : St) (t xt : TypeId) (s x : AV) : Option (AV × St) :=
  match T t, T xt with
  | some i, some k => match i.desc, k.desc with
    | .slice e, .slice _ => match T e with
      | some j =>
        match slCells st.h j.size s, slCells st.h j.size x with
        | some old, some new =>
          let len := slLen s
          let m := slLen x
          if j.size = 0 ∨ 1048576 < len + m ∨ 65536 < j.bytes ∨ j.bytes = 0 ∨ j.zero.length ≠ j.size ∨ new.all AV.one = false then none else
          if m = 0 then some (s, st) else
          match s with
          | .lit _ => some (.sl st.n 0 m j.size false, st.push (.cells none false new))
          | .isl _ _ true _ => some (.sl st.n 0 (len + m) j.size false, st.push (.cells none false (old ++ new)))
          | .sl _ _ _ _ true => some (.sl st.n 0 (len + m) j.size false, st.push (.cells none false (old ++ new)))
          | .sl id off _ _ false => match st.h.get id with
            | some (.cells fm false _) => if off = 0 then some (.sl st.n 0 (len + m) j.size false, St.push ⟨truncH (fm.getD id) (len * j.size) id st.h, st.n⟩ (.cells (some (fm.getD id)) false (old ++ new))) else none
            | _ => none
          | _ => none
        | _, _ => none
      | none => none
    | _, _ => none
  | _, _ => none
section
variable {P : Program} {T : Ti}
theorem slCells_ok {φ : Fi} {st : St} {w : World} (hr : Rel φ st w) {sz : Nat} {s : AV} {v : Value} {cs : List AV} (hs : VR φ s v) (h : slCells st.h sz s = some cs) :
    ∃ (a : Option Addr) (cap : Nat) (us : List Value), v = .slice a (slLen s) cap ∧ slLen s ≤ cap ∧ VRL φ cs us ∧ us.length = slLen s * sz ∧
      ∀ (n : Nat), n = slLen s → ∀ w', Same φ st.h w w' → (Builtin.firstCells sz n v).run P w' = .ok us.toArray w' := by
  unfold slCells at h
  split at h
  · rename_i len sz' ex g
    split at h
    · rename_i hc
      obtain ⟨rfl, hsz⟩ := hc
      cases h
      have hpos : 0 < sz' := by omega
      rcases hs.isl_inv with ⟨rfl, rfl⟩ | ⟨b, o, cap, c, us, rfl, hz, hcc, hus, hcap, _⟩
      · exact ⟨none, 0, [], rfl, Nat.le_refl _, .nil, by simp [slLen], fun n hn w' _ => by simp only [slLen] at hn; subst hn; rfl⟩
      · have hdm : ∀ j, j < len * sz' → j / sz' < len ∧ j % sz' < sz' ∧ j = j / sz' * sz' + j % sz' := fun j hj => ⟨by rw [Nat.div_lt_iff_lt_mul hpos]; exact hj, Nat.mod_lt _ hpos, by rw [Nat.mul_comm]; exact (Nat.div_add_mod j sz').symm⟩
        refine ⟨_, cap, (List.range (len * sz')).map fun j => us (j / sz') (j % sz'), rfl, hcap, VRL.of_get (by simp [flatG_length]) fun j a u h1 h2 => ?_, by simp [slLen], fun n hn w' hw => ?_⟩
        · have hj : j < len * sz' := by
            rcases Nat.lt_or_ge j (len * sz') with h | h
            · exact h
            · simp [h] at h2
          obtain ⟨d1, d2, d3⟩ := hdm j hj
          have hu : u = us (j / sz') (j % sz') := by simp [hj] at h2; exact h2.symm
          rw [d3, flatG_get _ _ _ _ _ d1 d2] at h1
          cases h1
          rw [hu]
          exact hus _ _ d1 d2
        · simp only [slLen] at hn
          subst hn
          refine run_firstCells_some (P := P) w' sz' n ⟨b, o, none⟩ n cap _ (by simp) fun j v hjv => ?_
          have hj : j < n * sz' := by
            rcases Nat.lt_or_ge j (n * sz') with h | h
            · exact h
            · simp [h] at hjv
          obtain ⟨d1, d2, d3⟩ := hdm j hj
          have hv : v = us (j / sz') (j % sz') := by simp [hj] at hjv; exact hjv.symm
          rw [hv]
          have h5 := (hr.froz b c hz).2.1 _ _ (hcc _ _ d1 d2)
          rw [← cell_of_block (w := w) (w' := w') (a := ⟨b, o + j / sz' * sz' + j % sz', none⟩) (hw.froz b c hz), Nat.add_assoc, ← d3] at h5
          rw [← h5]
          unfold Addr.add; split
          · rename_i h0; simp [h0]
          · rfl
    · cases h
  · cases h
    obtain rfl := hs.lit_inv
    exact ⟨none, 0, [], rfl, Nat.le_refl _, .nil, by simp [slLen], fun n _ w' _ => rfl⟩
  · rename_i id off len sz' ex
    split at h
    · rename_i cs0 hcs
      obtain ⟨f, ro, ho⟩ : ∃ f ro, st.h.get id = some (.cells f ro cs0) := by
        unfold cellsAt at hcs
        split at hcs
        · cases hcs; exact ⟨_, _, by assumption⟩
        · cases hcs
      split at h
      · rename_i hc
        cases h
        obtain ⟨rfl, hlen⟩ := hc
        obtain ⟨cap, rfl, hid, hcap, _, _⟩ := hs.sl_inv
        have hobj := (hr.obj id _ ho).1
        have hex : ∀ j, j < len * sz' → ∃ u, w.cell? ⟨(φ.f id).b, (φ.f id).o + off + j, none⟩ = some u ∧ ∀ a, cs0[off + j]? = some a → VR φ a u := fun j hj => by
          obtain ⟨u, h1, h2⟩ := hobj (off + j) _ (List.getElem?_eq_getElem (by omega))
          exact ⟨u, by rw [Nat.add_assoc]; exact h1, fun a ha => by rw [List.getElem?_eq_getElem (by omega)] at ha; cases ha; exact h2⟩
        let g : Nat → Value := fun j => if hj : j < len * sz' then (hex j hj).choose else undef
        have hg : ∀ j, j < len * sz' → w.cell? ⟨(φ.f id).b, (φ.f id).o + off + j, none⟩ = some (g j) ∧ ∀ a, cs0[off + j]? = some a → VR φ a (g j) := fun j hj => by
          simp only [g, hj, dif_pos]; exact (hex j hj).choose_spec
        refine ⟨_, cap, (List.range (len * sz')).map g, rfl, hcap, VRL.of_get (by simp; omega) fun j a u h1 h2 => ?_, by simp [slLen], fun n hn w' hw => ?_⟩
        · have hj : j < len * sz' := by
            rcases Nat.lt_or_ge j (len * sz') with h | h
            · exact h
            · simp [h] at h2
          have : u = g j := by simp [hj] at h2; exact h2.symm
          subst this
          refine (hg j hj).2 a ?_
          rw [List.getElem?_take] at h1
          simpa [hj] using h1
        · simp only [slLen] at hn
          subst hn
          refine run_firstCells_some (P := P) w' sz' n ⟨(φ.f id).b, (φ.f id).o + off, none⟩ n cap _ (by simp) fun j v hjv => ?_
          have hj : j < n * sz' := by
            rcases Nat.lt_or_ge j (n * sz') with h | h
            · exact h
            · simp [h] at hjv
          have : v = g j := by simp [hj] at hjv; exact hjv.symm
          subst this
          rw [← (hg j hj).1]
          refine Eq.trans ?_ (cell_of_block (w := w) (w' := w') (a := ⟨(φ.f id).b, (φ.f id).o + off + j, none⟩) (hw.obj id _ ho))
          unfold Addr.add; split <;> simp_all
      · cases h
    · cases h
  · cases h
theorem run_askRoom (n : Nat) (w : World) : (askRoom n).run P w = .ok () w := by
  unfold askRoom
  split <;> rfl
theorem run_append_grow (hT : TOk P T) {t xt ty e e' : TypeId} {i k j : TI} (hi : T t = some i) (hk : T xt = some k) (hd : i.desc = .slice e) (hd' : k.desc = .slice e') (hj : T e = some j)
    {base bx : Option Addr} {len cap m cx : Nat} {old new : List Value} {w : World}
    (hold : ∀ w' : World, w'.heap = w.heap → (Builtin.firstCells j.size len (.slice base len cap)).run P w' = .ok old.toArray w')
    (hnew : ∀ w' : World, w'.heap = w.heap → (Builtin.firstCells j.size m (.slice bx m cx)).run P w' = .ok new.toArray w')
    (hcap : cap < len + m) (hb1 : len + m ≤ 1048576) (hb2 : j.bytes ≤ 65536) (hb3 : j.bytes ≠ 0) (hz : j.zero.length = j.size) :
    ∃ (newCap : Nat) (rest : List Value), len + m ≤ newCap ∧ rest.length = (newCap - (len + m)) * j.size ∧
      (Builtin.append_ #[t, xt] ty #[.slice base len cap, .slice bx m cx]).run P w =
        .ok (.slice (some ⟨w.heap.size, 0, none⟩) (len + m) newCap) (({ w with drawn := w.drawn + 1 } : World).alloc (.cells (old ++ new ++ rest).toArray e)) := by
  obtain ⟨ti, z, h1, h2, h3, h4, h5⟩ := (hT e j hj).info
  have hzw : ∀ w : World, (zeroValue e).run P w = .ok z w := fun w => by simp [zeroValue, typeInfo, Sem.run_bind, program, Sem.run, Result.andThen, h1, h4]
  have hiw : ∀ w : World, (typeInfo e).run P w = .ok ti w := fun w => by simp [typeInfo, Sem.run_bind, program, Sem.run, Result.andThen, h1]
  let newCap := (Question.appendCap (len + m) cap e).cut (w.tape w.drawn (.appendCap (len + m) cap e))
  have hnc : len + m ≤ newCap := by simp only [newCap, Question.cut]; omega
  refine ⟨newCap, (Builtin.zeroCells z.cells (newCap - (len + m))).toList, hnc, ?_, ?_⟩
  · simp only [Builtin.zeroCells, Array.toList_map, List.length_map, Array.toList_range, List.length_range]
    rw [show z.cells.size = j.size from by rw [← hz, ← h5]; simp]
  · have hbm : (len + m) * ti.bytes ≤ 140737488355328 := by
      rw [h3]
      have : (len + m) * j.bytes ≤ 1048576 * 65536 := Nat.mul_le_mul hb1 hb2
      omega
    have hf := growslice_fits hcap hbm
    have hchoose : (choose (.appendCap (len + m) cap e)).run P w = .ok newCap { w with drawn := w.drawn + 1 } := by
      simp [choose, Sem.run, Question.forced, newCap]
    have hni : ¬ (((len + m : Nat) : Int) > IntKind.i64.max ∧ (False ∨ ti.bytes = 0)) := by
      rintro ⟨_, h | h⟩
      · exact h
      · exact hb3 (by rw [← h3]; exact h)
    have hfm : ¬ (Builtin.nextslicecap (len + m) cap * ti.bytes > 2 ^ 48) := by
      have : (2 : Nat) ^ 48 = 281474976710656 := by decide
      omega
    have hnle : ¬ (len + m ≤ cap) := by omega
    have e0 : (#[t, xt] : Array TypeId)[0]? = some t := rfl
    have e1 : (#[t, xt] : Array TypeId)[1]? = some xt := rfl
    simp only [Builtin.append_, e0, e1, List.getElem?_toArray, List.getElem?_cons_zero, List.getElem?_cons_succ, Sem.run_bind, run_und hT hi, hd, run_und hT hk, hd', Result.andThen, run_size hT hj, Sem.run_pure, Bool.false_eq_true, if_false, Builtin.lenOf, hnle, hiw, Sem.run_ite]
    rw [if_neg hni, if_neg hfm]
    have ho1 := hold { w with drawn := w.drawn + 1 } rfl
    have hn1 := hnew { w with drawn := w.drawn + 1 } rfl
    simp only [hchoose, run_askRoom, ho1, hn1, Bool.not_false, if_true, hzw, run_newRow]
    rw [show (old.toArray ++ new.toArray ++ Builtin.zeroCells z.cells (newCap - (len + m))) = (old ++ new ++ (Builtin.zeroCells z.cells (newCap - (len + m))).toList).toArray from by apply Array.ext'; simp]
theorem run_append_fits (hT : TOk P T) {t xt ty e e' : TypeId} {i k j : TI} (hi : T t = some i) (hk : T xt = some k) (hd : i.desc = .slice e) (hd' : k.desc = .slice e') (hj : T e = some j)
    {a : Addr} {bx : Option Addr} {len cap m cx : Nat} {new : List Value} {w : World} {c : Array Value} {ct : TypeId}
    (hnew : (Builtin.firstCells j.size m (.slice bx m cx)).run P w = .ok new.toArray w) (hspot : a.spot = none)
    (hcap : len + m ≤ cap) (hb : w.heap[a.block]? = some (.cells c ct (0, 0))) (hfit : a.off + len * j.size + new.length ≤ c.size) (h1 : ∀ u ∈ new, u.oneCell' = true) :
    (Builtin.append_ #[t, xt] ty #[.slice (some a) len cap, .slice bx m cx]).run P w =
      .ok (.slice (some a) (len + m) cap) (w.setRow a.block (c.toList.take (a.off + len * j.size) ++ new ++ c.toList.drop (a.off + len * j.size + new.length)).toArray) := by
  obtain ⟨ab, ao, asp⟩ := a
  simp only at hspot hb hfit ⊢
  subst hspot
  have hst := run_storeCells_at P ab (ao + len * j.size) ct new 0 c w hb (by simpa using hfit) h1
  simp only [Nat.add_zero] at hst
  have hadd : Addr.add ⟨ab, ao, none⟩ (len * j.size) = ⟨ab, ao + len * j.size, none⟩ := by unfold Addr.add; split <;> simp_all
  have e0 : (#[t, xt] : Array TypeId)[0]? = some t := rfl
  have e1 : (#[t, xt] : Array TypeId)[1]? = some xt := rfl
  simp only [Builtin.append_, e0, e1, List.getElem?_toArray, List.getElem?_cons_zero, List.getElem?_cons_succ, Sem.run_bind, run_und hT hi, hd, run_und hT hk, hd', Result.andThen, run_size hT hj, Sem.run_pure, Bool.false_eq_true, if_false, Builtin.lenOf, hcap, if_true, Bool.not_false, hnew, hadd, hst]
theorem append_ok (hT : TOk P T) {φ : Fi} {st st' : St} {w : World} {t xt ty : TypeId} {s x r : AV} {sv xv : Value} (hr : Rel φ st w) (hs : VR φ s sv) (hx : VR φ x xv) (h : appendA T st t xt s x = some (r, st')) :
    ∃ φ' w' v, (Builtin.append_ #[t, xt] ty #[sv, xv]).run P w = .ok v w' ∧ VR φ' r v ∧ Rel φ' st' w' ∧ Ext φ φ' ∧ Fr φ st w φ' st' w' := by
  unfold appendA at h
  split at h
  · rename_i i k hi hk
    split at h
    · rename_i e e' hd hd'
      split at h
      · rename_i j hj
        split at h
        · rename_i old new hold hnew
          obtain ⟨a, cap, us, rfl, hcap, hus, huslen, huf⟩ := slCells_ok (P := P) hr hs hold
          obtain ⟨ax, cx, vs, rfl, hcx, hvs, hvslen, hvf⟩ := slCells_ok (P := P) hr hx hnew
          simp only at h
          split at h
          · cases h
          · rename_i hc
            simp only [not_or, Nat.not_lt, Bool.not_eq_false] at hc
            obtain ⟨c1, c2, c3, c4, c5, c6⟩ := hc
            have c5 : j.zero.length = j.size := by simpa using c5
            have hsame : ∀ w' : World, w'.heap = w.heap → Same φ st.h w w' := fun w' hw => ⟨fun id o _ => by rw [hw], fun b c _ => by rw [hw]⟩
            have grow : ∀ (fm : Option Nat) (st1 : St), (∀ f, fm = some f → f < st1.n) → Rel φ st1 w → Fr φ st w φ st1 w → cap < slLen s + slLen x →
                ∃ φ' w' v, (Builtin.append_ #[t, xt] ty #[.slice a (slLen s) cap, .slice ax (slLen x) cx]).run P w = .ok v w' ∧ VR φ' (.sl st1.n 0 (slLen s + slLen x) j.size false) v ∧
                  Rel φ' (st1.push (.cells fm false (old ++ new))) w' ∧ Ext φ φ' ∧ Fr φ st w φ' (st1.push (.cells fm false (old ++ new))) w' := fun fm st1 hfmn hr1 hfr1 hlt => by
              obtain ⟨newCap, rest, g1, g2, g3⟩ := run_append_grow (ty := ty) hT hi hk hd hd' hj (base := a) (bx := ax) (cap := cap) (cx := cx) (fun w' hw => huf _ rfl w' (hsame w' hw)) (fun w' hw => hvf _ rfl w' (hsame w' hw)) hlt c2 c3 c4 c5
              have hr2 : Rel φ st1 { w with drawn := w.drawn + 1 } := hr1.of_heap rfl
              have hobj := ObjR.new (φ := φ) (w := { w with drawn := w.drawn + 1 }) (rest := rest) (hus.append hvs) (us ++ vs ++ rest).toArray (by simp) e
              have hobj' : ObjR (φ.push ⟨w.heap.size, 0, (us ++ vs ++ rest).toArray.size⟩) (({ w with drawn := w.drawn + 1 } : World).alloc (.cells (us ++ vs ++ rest).toArray e)) φ.n (.cells fm false (old ++ new)) := hobj
              have := hr2.push (.cells (us ++ vs ++ rest).toArray e) (.cells fm false (old ++ new)) ⟨w.heap.size, 0, (us ++ vs ++ rest).toArray.size⟩ rfl hobj' (fun f hf => hfmn f hf)
              refine ⟨_, _, _, g3, ?_, this.1, φ.push_ext _, hfr1.trans ((⟨rfl, rfl, rfl, Nat.le_refl _, fun _ _ _ => rfl, fun _ h => .inl h, fun _ _ h => .inl h⟩ : Fr φ st1 w φ st1 { w with drawn := w.drawn + 1 }).trans this.2)⟩
              have hv := VR.sl (φ := φ.push ⟨w.heap.size, 0, (us ++ vs ++ rest).toArray.size⟩) φ.n 0 (slLen s + slLen x) j.size false newCap (by simp [Fi.push]) g1 (by simp) (by
                rw [Fi.push_new]
                simp only [List.size_toArray, List.length_append, huslen, hvslen, g2, Nat.zero_add]
                rw [← Nat.add_mul, ← Nat.add_mul]
                exact Nat.mul_le_mul_right _ (by omega))
              rw [Fi.push_new] at hv
              rw [← hr1.n]
              exact hv
            split at h
            ·
              rename_i hm
              cases h
              refine ⟨φ, w, _, ?_, hs, hr, Ext.refl _, Fr.refl _ _ _⟩
              have e0 : (#[t, xt] : Array TypeId)[0]? = some t := rfl
              have e1 : (#[t, xt] : Array TypeId)[1]? = some xt := rfl
              have hf := hvf _ rfl w (Same.refl _ _ _)
              have hvs0 : vs = [] := List.eq_nil_of_length_eq_zero (by rw [hvslen, hm, Nat.zero_mul])
              subst hvs0
              have hle : slLen s + slLen x ≤ cap := by omega
              have hst : ∀ q : Addr, (storeCells q []).run P w = .ok () w := fun q => rfl
              simp only [Builtin.append_, e0, e1, List.getElem?_toArray, List.getElem?_cons_zero, List.getElem?_cons_succ, Sem.run_bind, run_und hT hi, hd, run_und hT hk, hd', Result.andThen, run_size hT hj, Sem.run_pure, Bool.false_eq_true, if_false, Builtin.lenOf, hle, if_true, Bool.not_false, hf]
              cases a with
              | none => simp [hm]
              | some q => simp [hst, hm]
            · rename_i hm
              split at h
              ·
                rename_i v
                cases h
                have h0 : slLen (.lit v) = 0 := rfl
                have hcap0 : cap = 0 := by
                  unfold slCells at hold
                  split at hold
                  · rename_i hq; cases hq
                  · rename_i hq; have := hs.lit_inv; cases hq; cases this; rfl
                  · rename_i hq; cases hq
                  · cases hold
                have hold0 : old = [] := by
                  have := hus.length; rw [huslen, h0, Nat.zero_mul] at this; exact List.eq_nil_of_length_eq_zero this
                have := grow none st (fun f hf => by cases hf) hr (Fr.refl _ _ _) (by rw [hcap0]; omega)
                rw [h0, hold0] at this
                rw [h0]
                simpa using this
              ·
                rename_i len sz g
                cases h
                have hcl : cap = slLen (.isl len sz true g) := by
                  rcases hs.isl_inv with ⟨h1, h2⟩ | ⟨b, o, cap', c, us', h2, _, _, _, _, h3⟩
                  · cases h2; rfl
                  · cases h2; exact h3 rfl
                exact grow none st (fun f hf => by cases hf) hr (Fr.refl _ _ _) (by rw [hcl]; omega)
              ·
                rename_i id off len sz
                cases h
                obtain ⟨cap', hcv, _, _, hex, _⟩ := hs.sl_inv
                have hcl : cap = slLen (.sl id off len sz true) := by cases hcv; exact hex rfl
                exact grow none st (fun f hf => by cases hf) hr (Fr.refl _ _ _) (by rw [hcl]; omega)
              · rename_i id off len sz
                split at h
                · rename_i fm cs ho
                  split at h
                  · rename_i hoff
                    subst hoff
                    cases h
                    obtain ⟨hrt, hfrt⟩ := hr.trunc ho (len * j.size)
                    have hfmn : ∀ f, some (fm.getD id) = some f → f < st.n := fun f hf => by
                      cases hf
                      cases fm with
                      | none => exact hr.lt id _ ho
                      | some g => exact hr.fam id _ g ho rfl
                    by_cases hfit : len + slLen x ≤ cap
                    ·
                      obtain ⟨cap', hcv, hid, _, _, hbnd⟩ := hs.sl_inv
                      cases hcv
                      obtain ⟨hcells, hblk⟩ := hr.obj id _ ho
                      obtain ⟨c, ct, hb, hcn, hcl⟩ := hblk rfl
                      simp only [slCells, cellsAt, ho] at hold
                      split at hold
                      · rename_i hsz
                        obtain ⟨rfl, hol⟩ := hsz
                        cases hold
                        simp only [slLen_sl] at *
                        have hm1 : (len + slLen x) * j.size ≤ cap * j.size := Nat.mul_le_mul_right _ hfit
                        rw [Nat.add_mul] at hm1
                        have hfits : (φ.f id).o + 0 + len * j.size + vs.length ≤ c.size := by rw [hvslen]; omega
                        have hrun := run_append_fits (P := P) (ty := ty) hT hi hk hd hd' hj (a := ⟨(φ.f id).b, (φ.f id).o + 0, none⟩) (len := len) (cap := cap) (hvf _ rfl w (Same.refl _ _ _)) rfl hfit hb hfits (hvs.one c6)
                        refine ⟨φ.push (φ.f id), _, _, hrun, ?_, ?_⟩
                        · have := VR.sl (φ := φ.push (φ.f id)) φ.n 0 (len + slLen x) j.size false cap (by simp [Fi.push]) hfit (by simp) (by rw [Fi.push_new]; exact hbnd)
                          rw [Fi.push_new] at this
                          rw [← hr.n]
                          exact this
                        ·
                          have hall : ∀ k ok, (⟨truncH (fm.getD id) (len * j.size) id st.h, st.n⟩ : St).h.get k = some ok → (φ.f k).b = (φ.f id).b →
                              ∃ cs', ok = .cells (some (fm.getD id)) false cs' ∧ cs'.length ≤ len * j.size ∧ (φ.f k).o = (φ.f id).o ∧ (φ.f k).n = (φ.f id).n := fun k ok hk hkb => by
                            simp only [truncH_get] at hk
                            by_cases hkid : k = id
                            · subst hkid
                              rw [ho] at hk
                              simp only [Option.map_some, beq_self_eq_true, trunc1, or_true, if_true, Option.some.injEq] at hk
                              exact ⟨_, hk.symm, by simp only [List.length_take]; omega, rfl, rfl⟩
                            · cases hgk : st.h.get k with
                              | none => rw [hgk] at hk; cases hk
                              | some o2 =>
                                rw [hgk] at hk
                                simp only [Option.map_some, Option.some.injEq] at hk
                                obtain ⟨⟨f, hf1, hf2⟩, h3, h4, h5⟩ := hr.sep id k _ o2 ho hgk (Ne.symm hkid) rfl hkb.symm
                                simp only [AObj.fam] at hf1
                                cases o2 with
                                | cells f2 ro2 cs2 =>
                                  simp only [AObj.fam] at hf2
                                  simp only [AObj.own, Bool.not_eq_true'] at h3
                                  subst hf1; subst hf2; subst h3
                                  simp only [trunc1, Option.getD_some, true_or, if_true] at hk
                                  exact ⟨_, by rw [← hk]; rfl, by simp only [List.length_take]; omega, h4.symm, h5.symm⟩
                                | loop r => cases hf2
                                | dfr => cases hf2
                                | map es clock => cases hf2
                                | iter mid since seen last => cases hf2
                          have hget1 : (⟨truncH (fm.getD id) (len * j.size) id st.h, st.n⟩ : St).h.get id = some (.cells (some (fm.getD id)) false (cs.take (len * j.size))) := by
                            simp only [truncH_get, ho, Option.map_some, trunc1, beq_self_eq_true, or_true, if_true]
                          have hlenc : c.toList.length = c.size := by simp
                          obtain ⟨hrb, hfb⟩ := hrt.beyond (X := (φ.f id).o + len * j.size) hb (c' := (c.toList.take ((φ.f id).o + 0 + len * j.size) ++ vs ++ c.toList.drop ((φ.f id).o + 0 + len * j.size + vs.length)).toArray)
                            (by simp only [List.size_toArray, List.length_append, List.length_take, List.length_drop, hlenc]; omega)
                            (fun k ok hk hkb => by obtain ⟨cs', h1, h2, h3, _⟩ := hall k ok hk hkb; exact ⟨_, cs', h1, by omega⟩)
                            (fun i hi => by
                              rw [← Array.getElem?_toList (xs := c)]
                              have := splice_get c.toList vs ((φ.f id).o + 0 + len * j.size) i (by rw [hlenc]; exact hfits)
                              rw [if_neg (by omega)] at this
                              simpa using this)
                            ⟨id, _, hget1, rfl, rfl⟩
                          have hobjn : ObjR (φ.push (φ.f id)) (w.setRow (φ.f id).b (c.toList.take ((φ.f id).o + 0 + len * j.size) ++ vs ++ c.toList.drop ((φ.f id).o + 0 + len * j.size + vs.length)).toArray) φ.n (.cells (some (fm.getD id)) false (cs.take (len * j.size) ++ new)) := by
                            have hnewb := setRow_heap w (φ.f id).b c (c.toList.take ((φ.f id).o + 0 + len * j.size) ++ vs ++ c.toList.drop ((φ.f id).o + 0 + len * j.size + vs.length)).toArray ct (0, 0) hb
                            have hnl := hvs.length
                            refine ⟨fun k a ha => ?_, fun _ => ⟨_, ct, by rw [Fi.push_new]; exact hnewb, ?_, ?_⟩⟩
                            · rw [Fi.push_new]
                              have hcellk : ∀ q, (w.setRow (φ.f id).b (c.toList.take ((φ.f id).o + 0 + len * j.size) ++ vs ++ c.toList.drop ((φ.f id).o + 0 + len * j.size + vs.length)).toArray).cell? ⟨(φ.f id).b, q, none⟩ =
                                  if (φ.f id).o + 0 + len * j.size ≤ q ∧ q < (φ.f id).o + 0 + len * j.size + vs.length then vs[q - ((φ.f id).o + 0 + len * j.size)]? else c[q]? := fun q => by
                                unfold World.cell?
                                simp only [hnewb]
                                rw [← Array.getElem?_toList (xs := c), ← splice_get c.toList vs _ q (by rw [hlenc]; exact hfits)]
                                simp
                              rw [hcellk]
                              by_cases hkl : k < len * j.size
                              · rw [List.getElem?_append_left (by simp only [List.length_take]; omega), List.getElem?_take, if_pos hkl] at ha
                                rw [if_neg (by omega)]
                                obtain ⟨u, hu, hru⟩ := hcells k a ha
                                refine ⟨u, ?_, hru.mono (φ.push_ext _)⟩
                                unfold World.cell? at hu
                                simpa [hb] using hu
                              · rw [List.getElem?_append_right (by simp only [List.length_take]; omega)] at ha
                                have htl : (cs.take (len * j.size)).length = len * j.size := by simp only [List.length_take]; omega
                                rw [htl] at ha
                                obtain ⟨u, hu, hru⟩ := hvs.get _ _ ha
                                have : k - len * j.size < vs.length := (List.getElem?_eq_some_iff.1 hu).1
                                rw [if_pos (by omega)]
                                exact ⟨u, by rw [show (φ.f id).o + k - ((φ.f id).o + 0 + len * j.size) = k - len * j.size from by omega]; exact hu, hru.mono (φ.push_ext _)⟩
                            · rw [Fi.push_new]
                              simp only [List.size_toArray, List.length_append, List.length_take, List.length_drop, hlenc]
                              omega
                            · rw [Fi.push_new]
                              simp only [List.length_append, List.length_take]
                              rw [hnl, hvslen]
                              omega
                          obtain ⟨hra, hfa⟩ := hrb.alias (.cells (some (fm.getD id)) false (cs.take (len * j.size) ++ new)) (φ.f id) hget1 rfl rfl rfl hobjn hfmn
                            (fun k ok hk hkb => by obtain ⟨cs', rfl, h2, h3, h4⟩ := hall k ok hk hkb; exact ⟨⟨_, rfl, rfl⟩, rfl, h3, h4⟩)
                          exact ⟨hra, φ.push_ext _, hfrt.trans (hfb.trans hfa)⟩
                      · cases hold
                    · exact grow (some (fm.getD id)) ⟨truncH (fm.getD id) (len * j.size) id st.h, st.n⟩ hfmn hrt hfrt (by simp only [slLen_sl]; omega)
                  · cases h
                · cases h
              · cases h
        · cases h
      · cases h
    · cases h
  · cases h
end
end Go.Fz
