/-
  A CLOSED CALL, IN WHATEVER STATE. Own work of the verifier of watercress.
-/
import Derived.Test.YtmoimpajiajacaaEvQ
namespace Go.Ev

/-- What is known of a call in the empty state is known of it in every state: it touches nothing of it. -/
theorem CallW.frame {P : Program} {g : FuncId} {r : Value} {k : AV → St → Prop} (h : CallW P g [] ⟨[], 0⟩ k) (hk : ∀ v st, k v st → v = .lit r) (st : St) : CallW P g [] st (fun v st' => v = .lit r ∧ st' = st) := by
  intro φ w cargs n h1 h2
  have h0 : Rel ⟨φ.f, 0⟩ ⟨[], 0⟩ w := ⟨rfl, fun _ _ h => (by cases h), fun _ _ h => (by cases h), fun _ _ h => (by cases h), fun _ _ _ _ h => (by cases h)⟩
  cases h2
  refine (h ⟨φ.f, 0⟩ w [] n h0 .nil).mono fun e w' hp => ?_
  obtain ⟨v, cv, st', φ', he, hkk, hv, hex, hrel, hfr⟩ := hp
  have hvr := hk v st' hkk
  subst hvr
  obtain rfl := hv.lit_inv
  have hno : ∀ k, ¬ Owns ⟨φ.f, 0⟩ ⟨[], 0⟩ k := fun k ⟨id, o, h, _⟩ => by cases h
  have hblk : ∀ k, k < w.heap.size → w'.heap[k]? = w.heap[k]? := fun k hk => hfr.block k hk (hno k)
  refine ⟨_, _, st, φ, he, ⟨rfl, rfl⟩, .lit _, Ext.refl _, ⟨h1.n, h1.lt, fun id o ho => Nat.lt_of_lt_of_le (h1.blk id o ho) hfr.size, fun id o ho => ?_, h1.sep⟩, ⟨hfr.os, hfr.tape, hfr.output, hfr.size, fun k hk _ => hblk k hk, fun k hk => .inl hk⟩⟩
  exact (h1.obj id o ho).same (Ext.refl _) (by rw [h1.n]; exact h1.lt id o ho) (hblk _ (h1.blk id o ho))

/-- Out of an evaluation. -/
theorem CallW.of_ev {P : Program} {call : CallE} (hc : CallOk P call) {g : FuncId} {r : Value} {outs : List (AV × St)} (h : call (.fn (.func g) [] []) [] ⟨[], 0⟩ = some outs) (hr : ∀ x ∈ outs, x.1 = .lit r) : Enters P g ∧ ∀ st, CallW P g [] st (fun v st' => v = .lit r ∧ st' = st) := by
  obtain ⟨h1, h2⟩ := hc _ _ _ _ h
  exact ⟨h1, fun st => CallW.frame h2 (fun v st' hm => hr _ hm) st⟩

/-- The same, by what the outcomes' values are. -/
theorem CallW.of_map {P : Program} {call : CallE} (hc : CallOk P call) {g : FuncId} {r : Value} (h : ((call (.fn (.func g) [] []) [] ⟨[], 0⟩).map fun l => l.map fun x => x.1) = some [.lit r]) : Enters P g ∧ ∀ st, CallW P g [] st (fun v st' => v = .lit r ∧ st' = st) := by
  cases hq : call (.fn (.func g) [] []) [] ⟨[], 0⟩ with
  | none => rw [hq] at h; cases h
  | some outs =>
    rw [hq] at h
    simp only [Option.map_some, Option.some.injEq] at h
    refine CallW.of_ev hc hq fun x hx => ?_
    have : x.1 ∈ outs.map fun x => x.1 := List.mem_map_of_mem hx
    rw [h] at this
    exact List.mem_singleton.1 this

end Go.Ev
