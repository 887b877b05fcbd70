/-
  COPY, CLEAR, and stores into memory that append has made (what may share it is forgotten first). Own work of the verifier of watercress.
-/
import Derived.Test.YtmoimpajiajacaaEvY
namespace Go.Ev

def famB (g : Nat) (o : AObj) : Bool := match o.fam with
  | some k => Nat.beq k g
  | none => false
def keepF (h : Hp) (g id i : Nat) : Bool := Nat.beq i id || (match h.get i with
  | some o => !famB g o
  | none => true)
/-- The object, if it may be written: with what may share its memory forgotten. -/
def ownSt (st : St) (id : Nat) : Option (List AV × St) := match st.h.get id with
  | some (.cells none false cs) => some (cs, st)
  | some (.cells (some g) false cs) => some (cs, ⟨(st.keep (keepF st.h g id)).h.set id (.cells none false cs), st.n⟩)
  | _ => none

section
variable {P : Program} {T : Ti}
theorem get_keep_self {p : Nat → Bool} {h : Hp} {id : Nat} (hp : p id = true) : Hp.get (h.filter fun x => p x.1) id = h.get id := by
  induction h with
  | nil => rfl
  | cons x r ih =>
    rw [List.filter_cons]
    by_cases hx : x.1 = id
    · have : p x.1 = true := by rw [hx]; exact hp
      rw [if_pos this]
      obtain ⟨i, o⟩ := x
      simp only at hx
      subst hx
      simp [Hp.get]
    · split
      · obtain ⟨i, o⟩ := x
        simp only [Hp.get] at hx ⊢
        rw [if_neg hx, if_neg hx, ih]
      · obtain ⟨i, o⟩ := x
        simp only [Hp.get] at hx ⊢
        rw [if_neg hx, ih]
theorem get_keep_p {p : Nat → Bool} {h : Hp} {id : Nat} {o : AObj} (hg : Hp.get (h.filter fun x => p x.1) id = some o) : p id = true := by
  induction h with
  | nil => cases hg
  | cons x r ih =>
    rw [List.filter_cons] at hg
    split at hg
    · rename_i hp
      obtain ⟨i, y⟩ := x
      simp only [Hp.get] at hg
      split at hg
      · rename_i hi; subst hi; exact hp
      · exact ih hg
    · exact ih hg

theorem own_ok {φ : Fi} {st st1 : St} {w : World} {id : Nat} {cs : List AV} (hr : Rel φ st w) (h : ownSt st id = some (cs, st1)) : Rel φ st1 w ∧ Fr φ st w φ st1 w ∧ st1.h.get id = some (.cells none false cs) ∧ st1.n = st.n := by
  unfold ownSt at h
  split at h
  · rename_i cs' ho
    cases h
    exact ⟨hr, Fr.refl _ _ _, ho, rfl⟩
  · rename_i g cs' ho
    cases h
    have hk := hr.keep (keepF st.h g id)
    have hpid : keepF st.h g id id = true := by simp [keepF]
    have hid : (st.keep (keepF st.h g id)).h.get id = some (.cells (some g) false cs) := by
      show Hp.get (st.h.filter fun x => keepF st.h g id x.1) id = _
      rw [get_keep_self hpid]; exact ho
    have hother : ∀ j oj, (st.keep (keepF st.h g id)).h.get j = some oj → j ≠ id → oj.fam ≠ some g := fun j oj hj hne hf => by
      have hp : keepF st.h g id j = true := get_keep_p hj
      have hj' : st.h.get j = some oj := Hp.get_filter hj
      unfold keepF at hp
      rw [hj'] at hp
      have hb : Nat.beq j id = false := by
        cases hq : Nat.beq j id with
        | false => rfl
        | true => exact absurd (Nat.eq_of_beq_eq_true hq) hne
      rw [hb] at hp
      simp [famB, hf] at hp
    have hget : ∀ j x, ((st.keep (keepF st.h g id)).h.set id (.cells none false cs)).get j = some x → (j = id ∧ x = .cells none false cs) ∨ (j ≠ id ∧ (st.keep (keepF st.h g id)).h.get j = some x) := fun j x hx => by
      rw [Hp.get_set] at hx
      split at hx
      · rename_i hc; left; exact ⟨hc.1, (Option.some.inj hx).symm⟩
      · rename_i hc
        right
        exact ⟨fun e => hc ⟨e, by rw [hid]; rfl⟩, hx⟩
    have hset : ((st.keep (keepF st.h g id)).h.set id (.cells none false cs)).get id = some (.cells none false cs) := by
      rw [Hp.get_set, if_pos ⟨rfl, by rw [hid]; rfl⟩]
    refine ⟨⟨hk.n, fun j x hx => ?_, fun j x hx => ?_, fun j x hx => ?_, fun i j oi oj hi hj hij ho' => ?_⟩, ⟨rfl, rfl, rfl, Nat.le_refl _, fun _ _ _ => rfl, fun k ⟨j, x, hx, hxo, hb⟩ => .inl ?_⟩, hset, rfl⟩
    · rcases hget j x hx with ⟨rfl, _⟩ | ⟨_, h1⟩
      · exact hk.lt _ _ hid
      · exact hk.lt _ _ h1
    · rcases hget j x hx with ⟨rfl, _⟩ | ⟨_, h1⟩
      · exact hk.blk _ _ hid
      · exact hk.blk _ _ h1
    · rcases hget j x hx with ⟨rfl, rfl⟩ | ⟨_, h1⟩
      · have := hk.obj _ _ hid; exact this
      · exact hk.obj _ _ h1
    · intro hb
      rcases hget i oi hi with ⟨rfl, rfl⟩ | ⟨hni, h1⟩ <;> rcases hget j oj hj with ⟨rfl, rfl⟩ | ⟨hnj, h2⟩
      · exact absurd rfl hij
      · exfalso
        obtain ⟨⟨f, hf, hf2⟩, _⟩ := hk.sep _ j _ oj hid h2 hij rfl hb
        have hfg : g = f := Option.some.inj hf
        subst hfg
        exact hother j oj h2 hnj hf2
      · exfalso
        obtain ⟨⟨f, hf, hf2⟩, _⟩ := hk.sep i _ oi _ h1 hid hij ho' hb
        have hfg : g = f := Option.some.inj hf2
        subst hfg
        exact hother i oi h1 hni hf
      · exact hk.sep i j oi oj h1 h2 hij ho' hb
    · rcases hget j x hx with ⟨rfl, rfl⟩ | ⟨_, h1⟩
      · exact ⟨_, _, ho, rfl, hb⟩
      · exact ⟨j, x, Hp.get_filter h1, hxo, hb⟩
  · cases h

/-- Cells are written. -/
theorem sets_ok {φ : Fi} {st : St} {w : World} {id off : Nat} {cs as : List AV} {vs : List Value} (hr : Rel φ st w) (ho : st.h.get id = some (.cells none false cs)) (hv : VRL φ as vs) (c3 : as.all AV.one = true) (c2 : off + as.length ≤ cs.length) :
    ∃ w', (storeCells ⟨(φ.f id).b, (φ.f id).o + off, none⟩ vs).run P w = .ok () w' ∧ Rel φ ⟨st.h.set id (.cells none false (setsL cs off as)), st.n⟩ w' ∧ Fr φ st w φ ⟨st.h.set id (.cells none false (setsL cs off as)), st.n⟩ w' := by
  obtain ⟨hcell, hblk⟩ := hr.obj id _ ho
  obtain ⟨c, ty, hb, hcn, hcl⟩ := hblk rfl
  have hvl := hv.length
  have hrun := run_storeCells_at P (φ.f id).b ((φ.f id).o + off) ty vs 0 c w hb (by simp only [Nat.add_zero]; omega) (hv.one c3)
  simp only [Nat.add_zero] at hrun
  refine ⟨w.setRow (φ.f id).b (c.toList.take ((φ.f id).o + off) ++ vs ++ c.toList.drop ((φ.f id).o + off + vs.length)).toArray, hrun, ?_⟩
  refine hr.turn (id := id) (o := .cells none false cs) (o' := .cells none false (setsL cs off as)) ho rfl rfl rfl rfl rfl (setRow_size _ _ _) (fun k hk => setRow_other w _ k _ hk) ?_
  have hcl' : c.toList.length = (φ.f id).n := by simp [hcn]
  refine ⟨fun k a ha => ?_, fun _ => ⟨_, ty, setRow_heap w _ c _ ty (0, 0) hb, ?_, by rw [setsL_length]; exact hcl⟩⟩
  · have hnew : ∀ j, (w.setRow (φ.f id).b (c.toList.take ((φ.f id).o + off) ++ vs ++ c.toList.drop ((φ.f id).o + off + vs.length)).toArray).cell? ⟨(φ.f id).b, j, none⟩ =
        if (φ.f id).o + off ≤ j ∧ j < (φ.f id).o + off + vs.length then vs[j - ((φ.f id).o + off)]? else c[j]? := fun j => by
      unfold World.cell?
      simp only [setRow_heap w _ c _ ty (0, 0) hb]
      rw [← Array.getElem?_toList (xs := c), ← splice_get c.toList vs ((φ.f id).o + off) j (by rw [hcl']; omega)]
      simp
    rw [setsL_get _ _ _ _ c2] at ha
    rw [hnew]
    split at ha
    · rename_i hk
      rw [if_pos (by omega)]
      obtain ⟨u, hu, hru⟩ := hv.get _ _ ha
      exact ⟨u, by rw [show (φ.f id).o + k - ((φ.f id).o + off) = k - off from by omega]; exact hu, hru⟩
    · rename_i hk
      rw [if_neg (by omega)]
      obtain ⟨u, hu, hru⟩ := hcell k a ha
      refine ⟨u, ?_, hru⟩
      unfold World.cell? at hu
      simpa [hb] using hu
  · simp only [List.size_toArray, List.length_append, List.length_take, List.length_drop, hcl']
    omega

/-! ### The operations -/
def xSto (T : Ti) (st : St) (ρ : Operand → AV) (o : Oper) : Option (List (AV × St)) := match o.op with
  | .store t p v => match ρ p with
    | .ptr id _ => match ownSt st id with
      | some (_, st1) => match storeA T st1 t (ρ p) (ρ v) with
        | some s => some [(undA, s)]
        | none => none
      | none => none
    | _ => none
  | _ => none
theorem xSto_ok (hT : TOk P T) : XOk P (xSto T) := by
  intro rd ops i f st o outs ho hw h
  unfold xSto at h
  split at h
  · rename_i t p v hx
    split at h
    · rename_i id off hp
      split at h
      · rename_i cs st1 hown
        split at h
        · rename_i s hs
          cases h
          refine OpsW.multi ho hw (fun c hc => by rw [hx] at hc; cases hc) fun φ w a h2 h3 => ?_
          have hρ := opR_of h3.ts
          obtain ⟨k1, k2, _, _⟩ := own_ok h2 hown
          obtain ⟨w', h4, h5, h6, _⟩ := store_ok (P := P) hT k1 (hρ p) (hρ v) hs
          exact ⟨_, _, φ, w', undef, List.mem_singleton.2 rfl, .inr ⟨by simp [execOp, hx, h4, Result.andThen], rfl⟩, .lit _, h5, Ext.refl _, k2.trans h6⟩
        · cases h
      · cases h
    · cases h
  · cases h

def xCopy (T : Ti) (st : St) (ρ : Operand → AV) (o : Oper) : Option (List (AV × St)) := match o.op with
  | .call c => match c.callee, c.args.toList, c.argTypes.toList with
    | .builtin .copy, [d, s], [dt, _] => match T dt with
      | some i => match i.desc with
        | .slice e => match T e with
          | some j => match ρ d with
            | .sl id off len _ _ => match slCells st.h j.size (ρ s) with
              | some new => match ownSt st id with
                | some (cs, st1) => if slLen (ρ s) ≤ len ∧ off + new.length ≤ cs.length ∧ new.all AV.one = true then some [(.lit (.int .i64 (slLen (ρ s))), ⟨st1.h.set id (.cells none false (setsL cs off new)), st1.n⟩)] else none
                | none => none
              | none => none
            | _ => none
          | none => none
        | _ => none
      | none => none
    | _, _, _ => none
  | _ => none
theorem xCopy_ok (hT : TOk P T) : XOk P (xCopy T) := by
  intro rd ops i f st o outs ho hw h
  unfold xCopy at h
  split at h
  · rename_i c hx
    split at h
    · rename_i d s dt sT hc ha ht
      have ha' : c.args = #[d, s] := by cases hq : c.args; simp_all
      have ht' : c.argTypes = #[dt, sT] := by cases hq : c.argTypes; simp_all
      split at h
      · rename_i ti hti
        split at h
        · rename_i e hd
          split at h
          · rename_i j hj
            split at h
            · rename_i id off len sz ex hxv
              split at h
              · rename_i new hnew
                split at h
                · rename_i cs st1 hown
                  split at h
                  · rename_i hcond
                    obtain ⟨c1, c2, c3⟩ := hcond
                    cases h
                    refine OpsW.multi ho hw (fun c hc => by rw [hx] at hc; cases hc) fun φ w a h2 h3 => ?_
                    have hρ := opR_of h3.ts
                    obtain ⟨k1, k2, k3, k4⟩ := own_ok h2 hown
                    obtain ⟨ad, cap, us, hv, _, hus, hul, huf⟩ := slCells_ok (P := P) h2 (hρ s) hnew
                    have hdd := hρ d
                    rw [hxv] at hdd
                    obtain ⟨cap', hv', _, _, _, _⟩ := hdd.sl_inv
                    obtain ⟨w', h4, h5, h6⟩ := sets_ok (P := P) k1 k3 hus c3 c2
                    refine ⟨_, _, φ, w', .int .i64 (slLen (Operand.av f.ts s)), List.mem_singleton.2 rfl, .inl ?_, .lit _, h5, Ext.refl _, k2.trans h6⟩
                    have hmin : Nat.min (slLen (Operand.av f.ts s)) len = slLen (Operand.av f.ts s) := Nat.min_eq_left c1
                    have hf := huf _ rfl w (Same.refl _ _ _)
                    have hcp : (Builtin.copy_ #[dt, sT] o.type #[a.eval d, a.eval s]).run P w = .ok (.int .i64 (slLen (Operand.av f.ts s))) w' := by
                      rw [hv', hv] at *
                      simp only [Builtin.copy_, List.getElem?_toArray, List.getElem?_cons_zero, List.getElem?_cons_succ, Sem.run_bind, run_und hT hti, hd, Result.andThen, Builtin.lenOf, Sem.run_pure, hmin, run_size hT hj, hf, h4]
                      rfl
                    simp [execOp, hx, resolve, hc, ha', ht', invoke, builtin, hcp, Result.andThen]
                  · cases h
                · cases h
              · cases h
            · cases h
          · cases h
        · cases h
      · cases h
    · cases h
  · cases h

/-- clear of a slice. -/
def xClear (T : Ti) (st : St) (ρ : Operand → AV) (o : Oper) : Option (List (AV × St)) := match o.op with
  | .call c => match c.callee, c.args.toList, c.argTypes.toList with
    | .builtin .clear, [s], [t] => match T t with
      | some i => match i.desc with
        | .slice e => match T e with
          | some j => match ρ s with
            | .sl id off len _ _ => match len with
              | 0 => some [(undA, st)]
              | n + 1 => match ownSt st id with
                | some (cs, st1) => if off + (n + 1) * j.zero.length ≤ cs.length ∧ (zerosA j ((n + 1) * j.zero.length)).all AV.one = true then some [(undA, ⟨st1.h.set id (.cells none false (setsL cs off (zerosA j ((n + 1) * j.zero.length)))), st1.n⟩)] else none
                | none => none
            | .lit (.slice none _ _) => some [(undA, st)]
            | _ => none
          | none => none
        | _ => none
      | none => none
    | _, _, _ => none
  | _ => none
theorem zerosA_length (j : TI) (n : Nat) : (zerosA j n).length = n := by simp [zerosA]
theorem xClear_ok (hT : TOk P T) : XOk P (xClear T) := by
  intro rd ops i f st o outs ho hw h
  unfold xClear at h
  split at h
  · rename_i c hx
    split at h
    · rename_i s t hc ha ht
      have ha' : c.args = #[s] := by cases hq : c.args; simp_all
      have ht' : c.argTypes = #[t] := by cases hq : c.argTypes; simp_all
      split at h
      · rename_i ti hti
        split at h
        · rename_i e hd
          split at h
          · rename_i j hj
            split at h
            · rename_i id off len sz ex hxv
              split at h
              · cases h
                refine OpsW.multi ho hw (fun c hc => by rw [hx] at hc; cases hc) fun φ w a h2 h3 => ?_
                have hdd := opR_of h3.ts s
                rw [hxv] at hdd
                obtain ⟨cap', hv', _, _, _, _⟩ := hdd.sl_inv
                refine ⟨_, _, φ, w, .tuple #[], List.mem_singleton.2 rfl, .inl ?_, .lit _, h2, Ext.refl _, Fr.refl _ _ _⟩
                have hcp : (Builtin.clear_ #[t] o.type #[a.eval s]).run P w = .ok (.tuple #[]) w := by
                  rw [hv']
                  simp only [Builtin.clear_, List.getElem?_toArray, List.getElem?_cons_zero, Sem.run_bind, run_und hT hti, hd, Result.andThen, Sem.run_pure]
                simp [execOp, hx, resolve, hc, ha', ht', invoke, builtin, hcp, Result.andThen]
              · rename_i n
                split at h
                · rename_i cs st1 hown
                  split at h
                  · rename_i hcond
                    obtain ⟨c2, c3⟩ := hcond
                    cases h
                    refine OpsW.multi ho hw (fun c hc => by rw [hx] at hc; cases hc) fun φ w a h2 h3 => ?_
                    have hdd := opR_of h3.ts s
                    rw [hxv] at hdd
                    obtain ⟨k1, k2, k3, k4⟩ := own_ok h2 hown
                    obtain ⟨cap', hv', _, _, _, _⟩ := hdd.sl_inv
                    obtain ⟨z, hz, hzc⟩ := run_zero hT hj w
                    have hzs := zeros_ok φ hzc ((n + 1) * j.zero.length)
                    obtain ⟨w', h4, h5, h6⟩ := sets_ok (P := P) k1 k3 hzs c3 (by rw [zerosA_length]; exact c2)
                    refine ⟨_, _, φ, w', .tuple #[], List.mem_singleton.2 rfl, .inl ?_, .lit _, h5, Ext.refl _, k2.trans h6⟩
                    have hzl : z.cells.size = j.zero.length := by rw [← hzc]; simp
                    have hzz : (Builtin.zeroCells z.cells (n + 1)).toList = (List.range ((n + 1) * j.zero.length)).map fun k => z.cells[k % z.cells.size]! := by
                      simp [Builtin.zeroCells, hzl]
                    have hcp : (Builtin.clear_ #[t] o.type #[a.eval s]).run P w = .ok (.tuple #[]) w' := by
                      rw [hv']
                      simp only [Builtin.clear_, List.getElem?_toArray, List.getElem?_cons_zero, Sem.run_bind, run_und hT hti, hd, Result.andThen, Sem.run_pure, hz, hzz, h4]
                    simp [execOp, hx, resolve, hc, ha', ht', invoke, builtin, hcp, Result.andThen]
                  · cases h
                · cases h
            · rename_i x y hxv
              cases h
              refine OpsW.multi ho hw (fun c hc => by rw [hx] at hc; cases hc) fun φ w a h2 h3 => ?_
              have hdd := opR_of h3.ts s
              rw [hxv] at hdd
              have hv' := hdd.lit_inv
              refine ⟨_, _, φ, w, .tuple #[], List.mem_singleton.2 rfl, .inl ?_, .lit _, h2, Ext.refl _, Fr.refl _ _ _⟩
              have hcp : (Builtin.clear_ #[t] o.type #[a.eval s]).run P w = .ok (.tuple #[]) w := by
                rw [hv']
                simp only [Builtin.clear_, List.getElem?_toArray, List.getElem?_cons_zero, Sem.run_bind, run_und hT hti, hd, Result.andThen, Sem.run_pure]
              simp [execOp, hx, resolve, hc, ha', ht', invoke, builtin, hcp, Result.andThen]
            · cases h
          · cases h
        · cases h
      · cases h
    · cases h
  · cases h
end
end Go.Ev
