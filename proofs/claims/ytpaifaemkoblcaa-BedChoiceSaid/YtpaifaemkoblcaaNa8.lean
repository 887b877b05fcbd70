/- Own work of the verifier of watercress: Lb8. -/
import Derived.Test.YtpaifaemkoblcaaNa7
import Derived.Test.YtpaifaemkoblcaaNa6
import Derived.Test.YtpaifaemkoblcaaNa5
set_option linter.unusedVariables false
set_option linter.unusedSimpArgs false
set_option linter.unusedVariables false
set_option linter.unusedSimpArgs false
namespace Go.Fz
open Go.Proofs
set_option maxRecDepth 100000
section
variable {P : Program} {T : Ti}
def ldAt (ops : Array Oper) (i : Nat) (f : Fm) : Option (TypeId × AV) := match ops[i]? with
  | none => none
  | some o => match wantA ops f.ts o with
    | some true => match o.op with
      | .load t p => some (t, Operand.av f.ts p)
      | _ => none
    | _ => none
theorem OpsW.ldI (hT : TOk P T) {rd : Option Nat} {ops : Array Oper} {K : Fm → St → Prop} {f : Fm} {st : St} {i : Nat} {l : List Nat} {t : TypeId} {p r : AV} (hx : ldAt ops i f = some (t, p)) (hr : loadA T st.h t p = some r)
    (h : OpsW P rd ops l K (putAt ops i f r) st) : OpsW P rd ops (i :: l) K f st := by
  unfold ldAt at hx
  split at hx
  · cases hx
  · rename_i o ho
    split at hx
    · rename_i hw
      split at hx
      · rename_i t' p' hop
        simp only [Option.some.injEq, Prod.mk.injEq] at hx
        obtain ⟨rfl, rfl⟩ := hx
        have hput : ∀ v, putAt ops i f v = f.put o.dst v := fun v => by simp [putAt, ho]
        rw [hput] at h
        refine OpsW.light hT ho hw ?_ h
        simp only [evG, evL, hop, hr]
      · cases hx
    · cases hx
end
def risE (many : Nat) : Nat → List Nat → Nat → List (List Nat)
  | 0, p, _ => [p]
  | m + 1, p, s => (List.range (many - m - s)).flatMap fun c => risE many m (p ++ [s + c]) (s + c + 1)
def risL (many : Nat) : List (List Nat) := (List.range (many + 1)).flatMap fun m => risE many m [] 0
theorem take_snoc (fl : Nat → Int) (N L : Nat) (h : L ≤ N) (v : Int) : (flatG 1 (intC fl) N).take L ++ [iV v] = flatG 1 (intC (setI fl L v)) (L + 1) := by
  have h1 := flatG_part fl N 0 L (by omega)
  rw [List.drop_zero] at h1
  rw [h1]
  have h2 : flatG 1 (intC (setI fl L v)) L = flatG 1 (intC fun i => fl (0 + i)) L := flatG_congr fun i k hi => by
    show iV (setI fl L v i) = iV (fl (0 + i))
    rw [setI_ne (by omega), Nat.zero_add]
  show _ = flatG 1 (intC (setI fl L v)) L ++ [iV (setI fl L v L)]
  rw [h2, setI_self]
end Go.Fz
namespace Go.Fz
open Go.Proofs
set_option maxRecDepth 100000
section
variable (K : List (List Nat) → Hp → Nat → Prop) (stop : List (List Nat) → List Nat → Hp → Nat → Prop) (ok : List Nat → Prop) (mc y many : Nat) (ex : Bool)
variable {K stop ok mc y many ex}
end
end Go.Fz
namespace Go.Fz
open Go.Proofs
set_option maxRecDepth 100000
theorem range_split (a b : Nat) (h : a ≤ b) : ∃ r, List.range b = List.range a ++ r := by
  have h1 := List.take_append_drop a (List.range b)
  rw [List.take_range, Nat.min_eq_left h] at h1
  exact ⟨_, h1.symm⟩
section
variable {K : List (List Nat) → Hp → Nat → Prop} {stop : List (List Nat) → List Nat → Hp → Nat → Prop} {ok : List Nat → Prop} {mc y many : Nat}
end
end Go.Fz
namespace Go.Fz
open Go.Proofs
set_option maxRecDepth 100000
theorem SW.sub {P : Program} {rd : Option Nat} {c : Code} {Q : Exit → Fm → St → Prop} {f : Fm} {h1 h2 : Hp} {n : Nat} (hd : f.dm = []) (hs : ∀ id o, h2.get id = some o → h1.get id = some o ∧ id < n) (h : SW P rd c Q f ⟨h2, n⟩) : SW P rd c Q f ⟨h1, n⟩ :=
  SW.pre (f2 := f) (st2 := ⟨h2, n⟩) ⟨rfl, rfl, fun id hid => (by rw [hd] at hid; cases hid), fun i => .inr ⟨rfl, .inl rfl⟩, Nat.le_refl _, Nat.le_refl _, fun id o ho => ⟨(hs id o ho).1, (hs id o ho).2, .inl rfl⟩⟩ h
section
variable {K : List (List Nat) → Hp → Nat → Prop} {stop : List (List Nat) → List Nat → Hp → Nat → Prop} {ok : List Nat → Prop} {mc y many : Nat}
end
end Go.Fz
namespace Go.Fz
open Go.Proofs
set_option maxRecDepth 100000
noncomputable def findRF : Code → Option (Code × Code)
  | .rangeFunc _ _ a b => some (a, b)
  | .seq a b => match findRF a with
    | some r => some r
    | none => findRF b
  | .scope a => findRF a
  | .block _ a => findRF a
  | _ => none
section
variable (d : DayD) (XO : AV) (hX : Below 0 XO) (E : List (Mk × Nat)) (cl : Nat) (hb : Born E cl)
end
end Go.Fz
namespace Go.Fz
open Go.Proofs
set_option maxRecDepth 100000
theorem risE_len {many : Nat} : ∀ (m : Nat) (p : List Nat) (s : Nat) (l : List Nat), l ∈ risE many m p s → l.length = m + p.length
  | 0, p, s, l, h => by rw [List.mem_singleton.1 h]; omega
  | m + 1, p, s, l, h => by
    obtain ⟨c, _, hc⟩ := List.mem_flatMap.1 h
    have := risE_len m _ _ _ hc
    rw [List.length_append, List.length_singleton] at this
    omega
theorem risL_len {many : Nat} {l : List Nat} (h : l ∈ risL many) : l.length ≤ many := by
  obtain ⟨m, hm, hl⟩ := List.mem_flatMap.1 h
  have := risE_len _ _ _ _ hl
  have := List.mem_range.1 hm
  simp at *
  omega
section
variable (d : DayD) (XO : AV) (E : List (Mk × Nat)) (cl : Nat)
end
end Go.Fz
namespace Go.Fz
open Go.Proofs
set_option maxRecDepth 100000
section
variable (d : DayD) (L : Nat) (G : Nat → Nat → AV) (ME : List (AV × AV × Nat)) (cl : Nat)
end
end Go.Fz
namespace Go.Fz
open Go.Proofs
set_option maxRecDepth 100000
section
variable (d : DayD) (L : Nat) (G : Nat → Nat → AV) (ME : List (AV × AV × Nat)) (cl : Nat) (Q : List Nat → Bool)
variable {d L G ME cl}
end
end Go.Fz
namespace Go.Fz
open Go.Proofs
set_option maxRecDepth 100000
end Go.Fz
namespace Go.Fz
open Go.Proofs
set_option maxRecDepth 100000
set_option linter.unusedVariables false
end Go.Fz
namespace Go.Fz
open Go.Proofs
set_option maxRecDepth 100000
set_option linter.unusedVariables false
end Go.Fz
namespace Go.Fz
open Go.Proofs
set_option maxRecDepth 100000
end Go.Fz
namespace Go.Fz
open Go.Proofs
set_option maxRecDepth 100000
section
variable (nw nl : Nat) (f0 f1 f2 f3 : Nat → Int) (z4 z5 z6 z7 : Int)
end
end Go.Fz
namespace Go.Fz
open Go.Proofs
set_option maxRecDepth 100000
section
end
end Go.Fz
namespace Go.Fz
open Go.Proofs
set_option maxRecDepth 100000
theorem size64_in {lo hi : Int} (h1 : 0 ≤ lo) (h2 : lo ≤ hi) (h3 : hi ≤ 5000) : size64 lo hi = hi - lo + 1 := by
  unfold size64
  rw [sub64_in _ _ (by omega) (by omega), add64_in _ _ (by omega) (by omega)]
end Go.Fz
namespace Go.Fz
open Go.Proofs
set_option maxRecDepth 100000
end Go.Fz
namespace Go.Fz
open Go.Proofs
set_option maxRecDepth 100000
def mnF (V : Nat → Int) (L : Nat) : Int := leN (V 0) (fun i => V (i + 1)) (L - 1)
def mxF (V : Nat → Int) (L : Nat) : Int := grN (V 0) (fun i => V (i + 1)) (L - 1)
theorem mnF_le {V : Nat → Int} {L i : Nat} (h : i < L) : mnF V L ≤ V i := by
  obtain ⟨⟨h1, h2⟩, _⟩ := leN_le (V 0) (fun i => V (i + 1)) (L - 1)
  cases i with
  | zero => exact h1
  | succ i => exact h2 i (by omega)
theorem mnF_mem {V : Nat → Int} {L : Nat} (h : 0 < L) : ∃ i, i < L ∧ V i = mnF V L := by
  obtain ⟨_, h3⟩ := leN_le (V 0) (fun i => V (i + 1)) (L - 1)
  rcases h3 with h3 | ⟨i, hi, h3⟩
  · exact ⟨0, h, h3.symm⟩
  · exact ⟨i + 1, by omega, h3.symm⟩
theorem mxF_ge {V : Nat → Int} {L i : Nat} (h : i < L) : V i ≤ mxF V L := by
  obtain ⟨⟨h1, h2⟩, _⟩ := grN_ge (V 0) (fun i => V (i + 1)) (L - 1)
  cases i with
  | zero => exact h1
  | succ i => exact h2 i (by omega)
theorem mxF_mem {V : Nat → Int} {L : Nat} (h : 0 < L) : ∃ i, i < L ∧ V i = mxF V L := by
  obtain ⟨_, h3⟩ := grN_ge (V 0) (fun i => V (i + 1)) (L - 1)
  rcases h3 with h3 | ⟨i, hi, h3⟩
  · exact ⟨0, h, h3.symm⟩
  · exact ⟨i + 1, by omega, h3.symm⟩
end Go.Fz
namespace Go.Fz
open Go.Proofs
set_option maxRecDepth 100000
def bitB (bits : Int) (i : Nat) : Bool := std.cmp .eql (std.bin .rem .i64 (std.bin .shr .i64 bits (std.conv .u64 (Int.ofNat i))) 2) 1
end Go.Fz
namespace Go.Fz
open Go.Proofs
set_option maxRecDepth 100000
end Go.Fz
namespace Go.Fz
open Go.Proofs
set_option maxRecDepth 100000
theorem risE_lt {many : Nat} : ∀ (m : Nat) (p : List Nat) (s : Nat) (l : List Nat), l ∈ risE many m p s → (∀ x ∈ p, x < many) → ∀ x ∈ l, x < many
  | 0, p, s, l, h, hp => by rw [List.mem_singleton.1 h]; exact hp
  | m + 1, p, s, l, h, hp => by
    obtain ⟨c, hc, hl⟩ := List.mem_flatMap.1 h
    have hc' := List.mem_range.1 hc
    refine risE_lt m _ _ l hl fun x hx => ?_
    rcases List.mem_append.1 hx with hx | hx
    · exact hp x hx
    · rw [List.mem_singleton.1 hx]; omega
theorem risL_lt {many : Nat} {l : List Nat} (h : l ∈ risL many) : ∀ x ∈ l, x < many := by
  obtain ⟨m, _, hl⟩ := List.mem_flatMap.1 h
  exact risE_lt m [] 0 l hl fun x hx => by cases hx
end Go.Fz
namespace Go.Fz
open Go.Proofs
set_option maxRecDepth 100000
end Go.Fz
namespace Go.Fz
open Go.Proofs
set_option maxRecDepth 100000
end Go.Fz
namespace Go.Fz
open Go.Proofs
set_option maxRecDepth 100000
end Go.Fz
namespace Go.Fz
variable {P : Program}
theorem frzs_ok {φ : Fi} {st : St} {w : World} (hr : Rel φ st w) {D : Nat → Bool} (m : Nat) : ∀ {xs : List AV} {us : List Value}, VRL φ xs us → VRL (φ.froz st.h D w) (xs.map (frz st.h D m)) us
  | [], _, h => by cases h; exact .nil
  | a :: xs, _, h => by cases h with | cons h t => exact .cons (frz_ok hr m h) (frzs_ok hr m t)
theorem call_frz {g : FuncId} {args args2 : List AV} {r : Value} {st : St} (D : Nat → Bool) (m : Nat) (hp : Pure P g args2 (.lit r)) (hf : freeB st.h D = true) (ha : Eqvs (args.map (frz st.h D m)) args2) :
    CallW P g args st (fun v st' => v = .lit r ∧ st' = st) := by
  intro φ w cargs n hrel hargs
  obtain ⟨k1, _⟩ := hrel.freeze hf
  have hargs' := ha.ok (frzs_ok hrel (D := D) m hargs)
  have hrel0 : Rel (φ.froz st.h D w) ⟨[], st.n⟩ w := ⟨k1.n, fun _ _ h => by simp [Hp.get] at h, fun _ _ h => by simp [Hp.get] at h, fun _ _ h => by simp [Hp.get] at h, fun _ _ _ _ h => by simp [Hp.get] at h, fun _ _ _ h => by simp [Hp.get] at h, fun b c hb => ⟨(k1.froz b c hb).1, (k1.froz b c hb).2.1, fun _ _ h => by simp [Hp.get] at h⟩⟩
  refine (hp.call ⟨[], st.n⟩ (φ.froz st.h D w) w cargs n hrel0 hargs').mono fun e W' hq => ?_
  obtain ⟨v, cv, st', φ', rfl, ⟨rfl, rfl⟩, hv, _, _, hfr⟩ := hq
  have hcv := hv.lit_inv
  have hblk : ∀ k, k < w.heap.size → W'.heap[k]? = w.heap[k]? := fun k hk => hfr.block k hk fun ⟨id, o, h, _⟩ => by simp [Hp.get] at h
  refine ⟨.lit r, cv, st, φ, rfl, ⟨rfl, rfl⟩, by rw [hcv]; exact .lit _, Ext.refl _, ?_, ⟨hfr.os, hfr.tape, hfr.output, hfr.size, fun k hk _ => hblk k hk, fun k hk => .inl hk, fun b c hb => .inl hb⟩⟩
  refine ⟨hrel.n, hrel.lt, fun id o h => Nat.lt_of_lt_of_le (hrel.blk id o h) hfr.size, fun id o h => (hrel.obj id o h).same (Ext.refl _) (by rw [hrel.n]; exact hrel.lt id o h) (hblk _ (hrel.blk id o h)), hrel.sep, hrel.fam, fun b c hb => ?_⟩
  obtain ⟨h1, h2, h3⟩ := hrel.froz b c hb
  refine ⟨Nat.lt_of_lt_of_le h1 hfr.size, fun i v hv => ?_, h3⟩
  rw [← h2 i v hv]
  exact World.cell?_of_block (hblk b h1)
end Go.Fz
namespace Go.Fz
open Go.Proofs
set_option maxRecDepth 100000
section
variable {P : Program} {T : Ti}
def lsB (n m : Nat) : Array Bool := ((List.range n).map fun i => m.testBit i).toArray
def tkB (ops : Array Oper) (pend : List (Nat × AV)) (listed : Array Bool) (i d : Nat) : Bool := match ops[i]? with
  | some o => (match o.dst with | some x => Nat.beq x d | none => false) && ((Region.ready .any ops listed).contains i && noLookB ops pend o)
  | none => false
theorem AnyE.tk {ops : Array Oper} {M : List Nat} {rd : Option Nat} {K : Fm → St → Prop} {fuel : Nat} {pend : List (Nat × AV)} {f : Fm} {st : St} (hM : tidyB ops M = true) (hT : TOk P T) {n m : Nat} (i d m' : Nat) {r0 r : AV}
    (hb : tkB ops pend (lsB n m) i d = true) (hs : (lsB n m).setIfInBounds i true = lsB n m') (hl : lightV T ops st.h f i = some r0) (he : Eqv r0 r)
    (H : AnyE P T ops M rd K fuel ((i, r) :: pend) (lsB n m') (f.put (some d) r) st) : AnyE P T ops M rd K (fuel + 1) pend (lsB n m) f st := by
  unfold tkB at hb
  split at hb
  · rename_i o ho
    rw [Bool.and_eq_true] at hb
    obtain ⟨h1, h2⟩ := hb
    have hd : o.dst = some d := by
      split at h1
      · rename_i x hx; rw [hx, Nat.eq_of_beq_eq_true h1]
      · cases h1
    refine AnyE.takeE hM hT i ho h2 ⟨r0, hl, he⟩ ?_
    rw [hs, hd]
    exact H
  · cases hb
theorem SW.drawnB (_hT : TOk P T) {ops : Array Oper} {M : List Nat} (hm : P.follows .mixedOrders = true) {rd : Option Nat} {id : Nat} {Q : Exit → Fm → St → Prop} {f : Fm} {st : St} (n : Nat) (hM : tidyB ops M = true) (hn : ops.size = n) (h0 : Array.replicate n false = lsB n 0)
    (h : AnyE P T ops M rd (fun f' st' => Q .normal f' st') n [] (lsB n 0) f st) : SW P rd (.region id ops true) Q f st := by
  refine SW.drawnE (T := T) hm hM ?_
  rw [hn, h0]; exact h
end
end Go.Fz
namespace Go.Fz
open Go.Proofs
set_option maxRecDepth 100000
end Go.Fz
namespace Go.Fz
open Go.Proofs
set_option maxRecDepth 100000
set_option linter.unusedVariables false
end Go.Fz
namespace Go.Fz
open Go.Proofs
set_option maxRecDepth 100000
set_option linter.unusedVariables false
end Go.Fz
namespace Go.Fz
open Go.Proofs
set_option maxRecDepth 100000
set_option linter.unusedVariables false
end Go.Fz
namespace Go.Fz
open Go.Proofs
set_option maxRecDepth 100000
set_option linter.unusedVariables false
end Go.Fz
namespace Go.Fz
open Go.Proofs
set_option maxRecDepth 100000
end Go.Fz
namespace Go.Fz
open Go.Proofs
set_option maxRecDepth 100000
set_option pp.deepTerms false
set_option pp.deepTerms.threshold 5
end Go.Fz
namespace Go.Fz
open Go.Proofs
set_option maxRecDepth 100000
end Go.Fz
namespace Go.Fz
open Go.Proofs
set_option maxRecDepth 100000
end Go.Fz
namespace Go.Fz
open Go.Proofs
set_option maxRecDepth 100000
theorem len_pos {α : Type} {l : List α} (h : l ≠ []) : 0 < l.length := by
  cases l with
  | nil => exact absurd rfl h
  | cons a l => simp
section
variable (d : DayD) (k w lo hi : Int)
end
end Go.Fz
namespace Go.Fz
open Go.Proofs
set_option maxRecDepth 100000
section
variable {T : Ti}
end
end Go.Fz
namespace Go.Fz
open Go.Proofs
set_option maxRecDepth 100000
section
variable {P : Program} {T : Ti}
end
end Go.Fz
namespace Go.Fz
open Go.Proofs
set_option maxRecDepth 100000
end Go.Fz
namespace Go.Fz
open Go.Proofs
set_option maxRecDepth 100000
set_option linter.unusedVariables false
end Go.Fz
namespace Go.Fz
open Go.Proofs
set_option maxRecDepth 100000
set_option linter.unusedVariables false
end Go.Fz
namespace Go.Fz
open Go.Proofs
set_option maxRecDepth 100000
set_option linter.unusedVariables false
end Go.Fz
namespace Go.Fz
open Go.Proofs
set_option maxRecDepth 100000
end Go.Fz
namespace Go.Fz
open Go.Proofs
set_option maxRecDepth 100000
set_option linter.unusedVariables false
section
variable {P : Program}
end
end Go.Fz
namespace Go.Fz
open Go.Proofs
set_option maxRecDepth 100000
set_option linter.unusedVariables false
end Go.Fz
namespace Go.Fz
open Go.Proofs
set_option maxRecDepth 100000
set_option linter.unusedVariables false
end Go.Fz
namespace Go.Fz
open Go.Proofs
set_option maxRecDepth 100000
set_option linter.unusedVariables false
end Go.Fz
