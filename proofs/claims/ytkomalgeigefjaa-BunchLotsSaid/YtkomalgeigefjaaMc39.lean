/- Own work of the verifier of watercress: FzE1. -/
import Derived.Test.YtkomalgeigefjaaMc3
import Derived.Deep.Slices
import Derived.Lib.SmallJoins
import Derived.WideKeyArgs
import Derived.WalkKit
import Derived.ProofKit
import Derived.OpenShut
import Derived.JoinedCond
import Derived.Below
import Derived.ChangeSame
import Derived.CallsIn
set_option linter.unusedVariables false
set_option linter.unusedSimpArgs false
namespace Go.Fz
open Go.ChangeShapes Go.WideShapes Go.Deep Go.Joins
def flatFs (P : Program) (rec : TypeId → Option (List Bool)) : List Field → Nat → Option (List Bool)
  | [], _ => some []
  | f :: fs, off => match rec f.type, flatFs P rec fs (off + P.cellsOf f.type) with
    | some ks, some ls => if f.offset = off ∧ ks.length = P.cellsOf f.type then some (ks ++ ls) else none
    | _, _ => none
def flatK (P : Program) : Nat → TypeId → Option (List Bool)
  | 0, _ => none
  | d + 1, t => match P.underlying t with
    | some (.int .i64) => some [true]
    | some .bool => some [false]
    | some (.struct fs) => flatFs P (flatK P d) fs.toList 0
    | _ => none
def kindOk : Bool → Value → Prop
  | true, v => ∃ n, v = .int .i64 n ∧ (Lit.int .i64 n).wf = true
  | false, v => ∃ b, v = .bool b
section
variable {H : Type} {enc : TypeId × Value → H} {P : Program} {w : World} {base : Nat} {spare : Nat → Bool} {held : Bool}
theorem flatFs_ok {rec : TypeId → Option (List Bool)} {n : Nat} {cs : List Value} (hrec : ∀ (t : TypeId) (ks : List Bool) (cs : List Value) (x : DataW H × List MemPlace), rec t = some ks → DataW.trod enc P w base spare held n t cs = some x → ∀ (j : Nat) (k : Bool), ks[j]? = some k → ∃ v, cs[j]? = some v ∧ kindOk k v) :
    ∀ (fs : List Field) (off : Nat) (ks : List Bool), flatFs P rec fs off = some ks → (∀ f ∈ fs, ∃ x, DataW.trod enc P w base spare held n f.type ((cs.drop f.offset).take (P.cellsOf f.type)) = some x) →
      ∀ (j : Nat) (k : Bool), ks[j]? = some k → ∃ v, cs[off + j]? = some v ∧ kindOk k v
  | [], off, ks, h, _, j, k, hj => by
    cases h
    simp at hj
  | f :: fs, off, ks, h, hx, j, k, hj => by
    unfold flatFs at h
    split at h
    · rename_i k1 k2 h1 h2
      split at h
      · rename_i hc
        cases h
        obtain ⟨ho, hl⟩ := hc
        by_cases hjl : j < k1.length
        · rw [List.getElem?_append_left hjl] at hj
          obtain ⟨x, hx1⟩ := hx f List.mem_cons_self
          obtain ⟨v, hv, hk⟩ := hrec f.type k1 _ x h1 hx1 j k hj
          refine ⟨v, ?_, hk⟩
          rw [List.getElem?_take, List.getElem?_drop, ho] at hv
          split at hv
          · exact hv
          · cases hv
        · rw [List.getElem?_append_right (by omega)] at hj
          obtain ⟨v, hv, hk⟩ := flatFs_ok hrec fs (off + P.cellsOf f.type) k2 h2 (fun g hg => hx g (List.mem_cons_of_mem _ hg)) (j - k1.length) k hj
          exact ⟨v, by rw [← hv]; congr 1; omega, hk⟩
      · cases h
    · cases h
theorem flatK_ok : ∀ (d : Nat) (n : Nat) (t : TypeId) (ks : List Bool) (cs : List Value) (x : DataW H × List MemPlace), flatK P d t = some ks → DataW.trod enc P w base spare held n t cs = some x → ∀ (j : Nat) (k : Bool), ks[j]? = some k → ∃ v, cs[j]? = some v ∧ kindOk k v
  | 0, _, _, _, _, _, h, _, _, _, _ => by cases h
  | d + 1, n, t, ks, cs, x, h, ht, j, k, hj => by
    unfold flatK at h
    split at h
    · rename_i hu
      cases h
      obtain ⟨z, rfl, _, hw⟩ := DataW.trod_int hu ht
      match j, hj with
      | 0, hj => cases hj; exact ⟨_, rfl, z, rfl, hw⟩
    · rename_i hu
      cases h
      obtain ⟨b, rfl, _⟩ := DataW.trod_bool hu ht
      match j, hj with
      | 0, hj => cases hj; exact ⟨_, rfl, b, rfl⟩
    · rename_i fs hu
      obtain ⟨xs, m, rfl, _, _, hlen, hf⟩ := DataW.trod_struct hu ht
      have := flatFs_ok (cs := cs) (fun t ks cs x h1 h2 => flatK_ok d m t ks cs x h1 h2) fs.toList 0 ks h (fun f hfm => by
        obtain ⟨i, hi, he⟩ := List.getElem_of_mem hfm
        have h1 := hf i f (by rw [← Array.getElem?_toList, List.getElem?_eq_getElem hi, he])
        rw [Array.length_toList] at hi
        rw [List.getElem?_eq_getElem (by omega)] at h1
        exact ⟨_, h1⟩) j k hj
      simpa using this
    · cases h
def decI (w : World) (a : Addr) (j : Nat) : Int := match w.cell? ⟨a.block, a.off + j, none⟩ with
  | some (.int _ n) => n
  | _ => 0
def decB (w : World) (a : Addr) (j : Nat) : Bool := match w.cell? ⟨a.block, a.off + j, none⟩ with
  | some (.bool b) => b
  | _ => false
def slAddr : Value → Addr
  | .slice (some a) _ _ => a
  | _ => ⟨0, 0, none⟩
def slCount : Value → Nat
  | .slice _ n _ => n
  | _ => 0
def zW (w : World) (b : Nat) : Option (Nat → Option Value) := match w.heap[b]? with
  | some (.cells c _ _) => some fun i => c[i]?
  | _ => none
theorem zW_cell {b : Nat} {c : Nat → Option Value} (h : zW w b = some c) (i : Nat) : c i = w.cell? ⟨b, i, none⟩ := by
  unfold zW at h
  split at h
  · rename_i hb
    cases h
    simp [World.cell?, hb]
  · cases h
def fiW (w : World) : Fi := ⟨fun _ => ⟨0, 0, 0⟩, 0, zW w⟩
theorem relW (w : World) : Rel (fiW w) ⟨[], 0⟩ w := by
  refine ⟨rfl, fun _ _ h => by simp [Hp.get] at h, fun _ _ h => by simp [Hp.get] at h, fun _ _ h => by simp [Hp.get] at h, fun _ _ _ _ h => by simp [Hp.get] at h, fun _ _ _ h => by simp [Hp.get] at h, fun b c hb => ⟨?_, fun i v hv => ?_, fun _ _ h => by simp [Hp.get] at h⟩⟩
  · have hb' : zW w b = some c := hb
    unfold zW at hb'
    split at hb'
    · rename_i hh
      exact (Array.getElem?_eq_some_iff.1 hh).1
    · cases hb'
  · rw [← zW_cell (w := w) hb i]; exact hv
theorem slice_cells {t e : TypeId} {n d : Nat} {ks : List Bool} {v : Value} {x : DataW H × List MemPlace} {r : Reach} {b0 : Nat} (ht : P.underlying t = some (.slice e)) (hk : flatK P d e = some ks) (hc : P.cellsOf e = ks.length)
    (hok : Cell.okWide P w r b0 t v) (h : DataW.trod enc P w base spare held n t [v] = some x) :
    v = .slice none 0 0 ∨ ∃ a cap c, v = .slice (some a) (slCount v) cap ∧ slCount v ≤ cap ∧ a.spot = none ∧ zW w a.block = some c ∧
      ∀ i j k, i < slCount v → ks[j]? = some k → ∃ u, w.cell? ⟨a.block, a.off + (i * ks.length + j), none⟩ = some u ∧ kindOk k u := by
  rcases open_slice ht h with ⟨h0, _⟩ | ⟨a, len, cap, m, n', D, Pl, hcs, _, hl, _, hm, _, hi⟩
  · left; simpa using h0
  · right
    have hv : v = .slice (some a) len cap := by simpa using hcs
    subst hv
    have hok' : w.has P r b0 a e cap := by
      unfold Cell.okWide at hok
      rw [ht] at hok
      unfold Cell.ok at hok
      rw [ht] at hok
      exact hok.2.2
    obtain ⟨_, hs, row, cells, hsh, _⟩ := hok'
    refine ⟨a, cap, ?_⟩
    have hz : ∃ c, zW w a.block = some c := by
      unfold World.shape? at hsh
      split at hsh
      · rename_i c t' z hb
        exact ⟨fun i => c[i]?, by unfold zW; rw [hb]⟩
      · rename_i hh
        cases hsh
    obtain ⟨c, hz⟩ := hz
    refine ⟨c, rfl, hl, hs, hz, fun i j k hil hj => ?_⟩
    have him : i < m := by
      rw [hm]; simp only [slCount] at hil; split <;> omega
    obtain ⟨cs', hcells, htr⟩ := hi i him
    obtain ⟨u, hu, hko⟩ := flatK_ok d n' e ks cs' (D i, Pl i) hk htr j k hj
    refine ⟨u, ?_, hko⟩
    obtain ⟨_, hlen, hat⟩ := World.cells?_some hcells
    have hjl : j < ks.length := (List.getElem?_eq_some_iff.1 hj).1
    have h1 := hat j (by rw [hc]; exact hjl)
    rw [hu, hc] at h1
    rw [← h1]
    congr 1
    unfold Addr.add
    obtain ⟨ab, ao, asp⟩ := a
    simp only at hs
    subst hs
    by_cases h2 : i * ks.length = 0
    · by_cases h3 : j = 0
      · simp [h2, h3]
      · simp [h2, h3]
    · by_cases h3 : j = 0
      · simp [h2, h3]
      · simp [h2, h3]; omega
theorem slice_isl {t e : TypeId} {n d : Nat} {ks : List Bool} {v : Value} {x : DataW H × List MemPlace} {r : Reach} {b0 : Nat} (ht : P.underlying t = some (.slice e)) (hk : flatK P d e = some ks) (hc : P.cellsOf e = ks.length)
    (hok : Cell.okWide P w r b0 t v) (h : DataW.trod enc P w base spare held n t [v] = some x) {g : Nat → Nat → AV}
    (hg : ∀ i j k, ks[j]? = some k → g i j = if k then .lit (.int .i64 (decI w (slAddr v) (i * ks.length + j))) else .sb (decB w (slAddr v) (i * ks.length + j))) :
    VR (fiW w) (.isl (slCount v) ks.length false g) v := by
  rcases slice_cells ht hk hc hok h with rfl | ⟨a, cap, c, hv, hl, hs, hz, hcell⟩
  · exact .isl0 _ _ _
  · generalize hN : slCount v = N at *
    subst hv
    obtain ⟨ab, ao, asp⟩ := a
    simp only at hs
    subst hs
    refine .isl N ks.length false g ab ao cap c (fun i k => (w.cell? ⟨ab, ao + (i * ks.length + k), none⟩).getD undef) hz (fun i k hi hk' => ?_) (fun i k hi hk' => ?_) hl (fun h => by cases h)
    · obtain ⟨u, hu, _⟩ := hcell i k ks[k] hi (List.getElem?_eq_getElem hk')
      rw [zW_cell (w := w) hz, show ao + i * ks.length + k = ao + (i * ks.length + k) by omega]
      simp only at hu
      rw [hu]; rfl
    · obtain ⟨u, hu, hko⟩ := hcell i k ks[k] hi (List.getElem?_eq_getElem hk')
      simp only at hu
      rw [hu]
      rw [hg i k ks[k] (List.getElem?_eq_getElem hk')]
      cases hkk : ks[k] with
      | true =>
        rw [hkk] at hko
        obtain ⟨z, rfl, _⟩ := hko
        have : decI w (slAddr (.slice (some ⟨ab, ao, none⟩) N cap)) (i * ks.length + k) = z := by
          simp [decI, slAddr, hu]
        simp only [if_true, Option.getD_some]
        rw [this]; exact .lit _
      | false =>
        rw [hkk] at hko
        obtain ⟨z, rfl⟩ := hko
        have : decB w (slAddr (.slice (some ⟨ab, ao, none⟩) N cap)) (i * ks.length + k) = z := by
          simp [decB, slAddr, hu]
        simp only [Bool.false_eq_true, if_false, Option.getD_some]
        rw [this]; exact .sb _
end
end Go.Fz
