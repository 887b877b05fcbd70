/-
  A SLICE CUT AT ITS END: where the rest lies hangs on the capacity. Own work of the verifier of watercress.
-/
import Derived.Test.YtmoimpajiajacaaEvU
namespace Go.Ev

section
variable {P : Program} {T : Ti}

def xEnd (T : Ti) (st : St) (ρ : Operand → AV) (o : Oper) : Option (List (AV × St)) :=
  match o.op with
  | .slice t x (some lo) none none => match T t with
    | some i => match i.desc with
      | .slice e => match T e with
        | some j => match ρ x with
          | .sl id off len sz _ => if j.size = sz ∧ natOf (ρ lo) = some len then some [(.sl id off 0 sz true, st), (.sl id (off + len * sz) 0 sz false, st)] else none
          | _ => none
        | none => none
      | _ => none
    | none => none
  | _ => none

theorem xEnd_ok (hT : TOk P T) : XOk P (xEnd T) := by
  intro rd ops i f st o outs ho hw h
  have hadd : ∀ (b o n : Nat), Addr.add ⟨b, o, none⟩ n = ⟨b, o + n, none⟩ := fun b o n => by unfold Addr.add; split <;> simp_all
  unfold xEnd at h
  split at h
  · rename_i t x lo hx
    split at h
    · rename_i ti hti
      split at h
      · rename_i e hd
        split at h
        · rename_i j hj
          split at h
          · rename_i id off len sz ex hxv
            split at h
            · rename_i hc
              obtain ⟨hsz, hlo⟩ := hc
              subst hsz
              cases h
              refine OpsW.multi ho hw (fun c hc => by rw [hx] at hc; cases hc) fun φ w a h2 h3 => ?_
              have hρ := opR_of h3.ts
              have hxx := hρ x
              rw [hxv] at hxx
              obtain ⟨cap, hv, hid, hcap, hex, hbnd⟩ := hxx.sl_inv
              have hb := bounds_ok (P := P) (s := true) (len := len) (cap := cap) (m := cap) (lo := some lo) (hi := none) (mx := none) hρ (by simpa [natOr] using hlo) rfl (.inl ⟨rfl, rfl⟩) (Nat.le_refl _) hcap (Nat.le_refl _) w
              simp only [Option.map_some, Option.map_none] at hb
              have hrun : (execOp a.eval o).run P w = .ok (.value (.slice (if cap = len then some ⟨(φ.f id).b, (φ.f id).o + off, none⟩ else some ⟨(φ.f id).b, (φ.f id).o + (off + len * j.size), none⟩) 0 (cap - len))) w := by
                simp only [execOp, hx, Option.map_some, Option.map_none, Instr.sliceAt, Sem.run_bind, run_und hT hti, hd, Result.andThen, Instr.slice, hv, hb, run_size hT hj, Sem.run_pure]
                by_cases hl : cap = len
                · simp [hl]
                · simp [hl, hadd, Nat.add_assoc]
              by_cases hl : cap = len
              · rw [if_pos hl] at hrun
                exact ⟨_, st, φ, w, _, List.mem_cons_self, .inl hrun, by
                  rw [hl, Nat.sub_self]
                  exact .sl id off 0 j.size true 0 hid (Nat.le_refl _) (fun _ => rfl) (by omega), h2, Ext.refl _, Fr.refl _ _ _⟩
              · rw [if_neg hl] at hrun
                exact ⟨_, st, φ, w, _, List.mem_cons_of_mem _ (List.mem_singleton.2 rfl), .inl hrun, .sl id (off + len * j.size) 0 j.size false (cap - len) hid (Nat.zero_le _) (fun h => by cases h) (by
                  have : len * j.size + (cap - len) * j.size = cap * j.size := by rw [← Nat.add_mul]; congr 1; omega
                  omega), h2, Ext.refl _, Fr.refl _ _ _⟩
            · cases h
          · cases h
        · cases h
      · cases h
    · cases h
  · cases h

end
end Go.Ev
