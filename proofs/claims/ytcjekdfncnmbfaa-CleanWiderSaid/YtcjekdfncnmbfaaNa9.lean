/- Own work of the verifier of watercress: Lb9. -/
import Derived.Test.YtcjekdfncnmbfaaNa8
import Derived.Test.YtcjekdfncnmbfaaNa6
import Derived.Test.YtcjekdfncnmbfaaNa7
import Derived.Test.YtcjekdfncnmbfaaNa5
set_option linter.unusedVariables false
set_option linter.unusedSimpArgs false
set_option linter.unusedVariables false
set_option linter.unusedSimpArgs false
namespace Go.Fz
open Go.Proofs
set_option maxRecDepth 100000
set_option linter.unusedVariables false
end Go.Fz
namespace Go.Fz
open Go.Proofs
set_option maxRecDepth 100000
set_option linter.unusedVariables false
end Go.Fz
namespace Go.Fz
open Go.Proofs
set_option maxRecDepth 100000
end Go.Fz
namespace Go.Fz
open Go.Proofs
set_option maxRecDepth 100000
end Go.Fz
namespace Go.Fz
open Go.Proofs
set_option maxRecDepth 100000
end Go.Fz
namespace Go.Fz
open Go.Proofs
set_option maxRecDepth 100000
end Go.Fz
namespace Go.Fz
open Go.Proofs
set_option maxRecDepth 100000
set_option linter.unusedVariables false
end Go.Fz
namespace Go.Fz
open Go.Proofs
set_option maxRecDepth 100000
set_option linter.unusedVariables false
section
variable {n : Nat} {lo hi t : Nat → Int}
end
end Go.Fz
namespace Go.Fz
open Go.Proofs
set_option maxRecDepth 100000
set_option linter.unusedVariables false
theorem selT_mem (p : Nat → Bool) (x : Nat) : ∀ n, x ∈ selT p n ↔ x < n ∧ p x = true
  | 0 => by simp [selT]
  | n + 1 => by
    unfold selT
    have ih := selT_mem p x n
    split
    · rename_i hp
      rw [List.mem_append, ih, List.mem_singleton]
      constructor
      · rintro (⟨h1, h2⟩ | rfl)
        · exact ⟨by omega, h2⟩
        · exact ⟨by omega, hp⟩
      · rintro ⟨h1, h2⟩
        by_cases e : x = n
        · exact .inr e
        · exact .inl ⟨by omega, h2⟩
    · rename_i hp
      rw [ih]
      constructor
      · rintro ⟨h1, h2⟩; exact ⟨by omega, h2⟩
      · rintro ⟨h1, h2⟩
        refine ⟨?_, h2⟩
        rcases Nat.lt_succ_iff_lt_or_eq.1 h1 with h | h
        · exact h
        · subst h; exact absurd h2 hp
end Go.Fz
namespace Go.Fz
open Go.Proofs
set_option maxRecDepth 100000
set_option linter.unusedVariables false
end Go.Fz
namespace Go.Fz
open Go.Proofs
set_option maxRecDepth 100000
set_option linter.unusedVariables false
end Go.Fz
namespace Go.Fz
open Go.Proofs
set_option maxRecDepth 100000
set_option linter.unusedVariables false
end Go.Fz
namespace Go.Fz
open Go.Proofs
set_option maxRecDepth 100000
variable {d x : DayD}
end Go.Fz
namespace Go.Fz
open Go.Proofs
set_option maxRecDepth 100000
set_option linter.unusedVariables false
end Go.Fz
namespace Go.Fz
open Go.Proofs
set_option maxRecDepth 100000
set_option linter.unusedVariables false
section
variable {d : DayD} {x : List Nat} {fe : Nat → Int}
end
end Go.Fz
namespace Go.Fz
open Go.Proofs
set_option maxRecDepth 100000
set_option linter.unusedVariables false
section
variable {P : Program} {T : Ti}
end
end Go.Fz
namespace Go.Fz
open Go.Proofs
set_option maxRecDepth 100000
set_option linter.unusedVariables false
section
variable {P : Program} {T : Ti}
def pairB (T : Ti) (t : TypeId) : Bool := match T t with
  | some i => aggD i.desc && Nat.beq i.size 2
  | none => false
theorem load_at2 {t : TypeId} {h : Hp} {id off : Nat} {fm : Option Nat} {ro : Bool} {cs : List AV} {u v : AV} (hs : pairB T t = true) (hg : h.get id = some (.cells fm ro cs)) (h0 : cs[off]? = some u) (h1 : cs[off + 1]? = some v) : loadA T h t (.ptr id off) = some (.agg [u, v]) := by
  unfold pairB at hs
  split at hs
  · rename_i i hi
    rw [Bool.and_eq_true] at hs
    have hz := Nat.eq_of_beq_eq_true hs.2
    have hl : off + 1 < cs.length := (List.getElem?_eq_some_iff.1 h1).1
    simp only [loadA, ptrOf, cellsAt, hg, partA, hi]
    rw [if_pos hs.1, hz, if_pos (by omega)]
    have h2 : cs.drop off = u :: v :: cs.drop (off + 2) := by
      rw [List.drop_eq_getElem_cons (by omega : off < cs.length), List.drop_eq_getElem_cons hl]
      rw [(List.getElem?_eq_some_iff.1 h0).2, (List.getElem?_eq_some_iff.1 h1).2]
    rw [h2]
    rfl
  · cases hs
end
end Go.Fz
namespace Go.Fz
open Go.Proofs
set_option maxRecDepth 100000
set_option linter.unusedVariables false
end Go.Fz
namespace Go.Fz
open Go.Proofs
set_option maxRecDepth 100000
set_option linter.unusedVariables false
end Go.Fz
namespace Go.Fz
open Go.Proofs
set_option maxRecDepth 100000
set_option linter.unusedVariables false
end Go.Fz
namespace Go.Fz
open Go.Proofs
set_option maxRecDepth 100000
set_option linter.unusedVariables false
end Go.Fz
namespace Go.Fz
open Go.Proofs
set_option maxRecDepth 100000
set_option linter.unusedVariables false
end Go.Fz
namespace Go.Fz
open Go.Proofs
set_option maxRecDepth 100000
set_option linter.unusedVariables false
end Go.Fz
namespace Go.Fz
open Go.Proofs
set_option maxRecDepth 100000
set_option linter.unusedVariables false
end Go.Fz
namespace Go.Proofs.Ytcjekdfncnmbfaa
open Go.ChangeShapes Go.WideShapes Go.ChangeAt Go.RowKit Go.Joins
set_option linter.unusedVariables false
set_option maxRecDepth 100000
end Go.Proofs.Ytcjekdfncnmbfaa
namespace Go.Fz
open Go.Proofs
set_option maxRecDepth 100000
set_option linter.unusedVariables false
end Go.Fz
namespace Go.Fz
open Go.Proofs
set_option maxRecDepth 100000
set_option linter.unusedVariables false
end Go.Fz
namespace Go.Fz
open Go.Proofs
set_option maxRecDepth 100000
set_option linter.unusedVariables false
end Go.Fz
namespace Go.Fz
open Go.Proofs
set_option maxRecDepth 100000
set_option linter.unusedVariables false
end Go.Fz
namespace Go.Fz
open Go.Proofs
set_option maxRecDepth 100000
set_option linter.unusedVariables false
end Go.Fz
namespace Go.Fz
open Go.Proofs
set_option maxRecDepth 100000
set_option linter.unusedVariables false
end Go.Fz
namespace Go.Fz
open Go.Proofs
set_option maxRecDepth 100000
set_option linter.unusedVariables false
end Go.Fz
namespace Go.Fz
open Go.Proofs
set_option maxRecDepth 100000
set_option linter.unusedVariables false
section
variable {P : Program} {T : Ti}
end
end Go.Fz
namespace Go.Fz
open Go.Proofs
set_option maxRecDepth 100000
set_option linter.unusedVariables false
end Go.Fz
namespace Go.Fz
open Go.Proofs
set_option maxRecDepth 100000
set_option linter.unusedVariables false
end Go.Fz
namespace Go.Fz
open Go.Proofs
set_option maxRecDepth 100000
set_option linter.unusedVariables false
end Go.Fz
namespace Go.Fz
open Go.Proofs
set_option maxRecDepth 100000
set_option linter.unusedVariables false
end Go.Fz
namespace Go.Fz
open Go.Proofs
set_option maxRecDepth 100000
set_option linter.unusedVariables false
end Go.Fz
namespace Go.Fz
open Go.Proofs
set_option maxRecDepth 100000
set_option linter.unusedVariables false
end Go.Fz
namespace Go.Fz
open Go.Proofs
set_option maxRecDepth 100000
set_option linter.unusedVariables false
end Go.Fz
namespace Go.Fz
open Go.Proofs
set_option maxRecDepth 100000
set_option linter.unusedVariables false
end Go.Fz
namespace Go.Fz
open Go.Proofs
set_option maxRecDepth 100000
set_option linter.unusedVariables false
end Go.Fz
namespace Go.Fz
open Go.Proofs
set_option maxRecDepth 100000
set_option linter.unusedVariables false
end Go.Fz
namespace Go.Fz
open Go.Proofs
set_option maxRecDepth 100000
set_option linter.unusedVariables false
end Go.Fz
namespace Go.Fz
open Go.Proofs
set_option maxRecDepth 100000
set_option linter.unusedVariables false
end Go.Fz
namespace Go.Fz
open Go.Proofs
set_option maxRecDepth 100000
set_option linter.unusedVariables false
end Go.Fz
namespace Go.Fz
open Go.Proofs
set_option maxRecDepth 100000
set_option linter.unusedVariables false
end Go.Fz
namespace Go.Fz
open Go.Proofs
set_option maxRecDepth 100000
set_option linter.unusedVariables false
end Go.Fz
namespace Go.Fz
open Go.Proofs
set_option maxRecDepth 100000
set_option linter.unusedVariables false
section
variable (d : DayD) (m : Nat) (k w lo hi : Nat → Int)
end
end Go.Fz
namespace Go.Proofs.Ytcjekdfncnmbfaa
open Go.ChangeShapes Go.WideShapes Go.ChangeAt Go.RowKit Go.Joins
set_option linter.unusedVariables false
set_option maxRecDepth 100000
end Go.Proofs.Ytcjekdfncnmbfaa
namespace Go.Fz
open Go.Proofs
set_option maxRecDepth 100000
set_option linter.unusedVariables false
structure ValF {γ : Type} (U : γ → AV) where
  den : γ → Value
  val : ∀ (φ : Fi) (g : γ) (u : Value), VR φ (U g) u → u = den g
  ok : ∀ (φ : Fi) (g : γ), VR φ (U g) (den g)
def blV (b : Bool) : AV := .lit (.bool b)
def boolVal : ValF blV where
  den b := .bool b
  val φ b u h := h.lit_inv
  ok φ b := .lit _
def ZeroG (P : Program) (e : TypeId) (x : Value) : Prop := ∀ w : World, (zeroValue e).run P w = .ok x w
section
variable {P : Program} {T : Ti} {β γ : Type}
def gmE (V : β → AV) (U : γ → AV) (E : List ((β × γ) × Nat)) : List (AV × AV × Nat) := E.map fun p => (V p.1.1, U p.1.2, p.2)
theorem gm_nodup {E : List ((β × γ) × Nat)} (hn : (E.map (·.1.1)).Nodup) {p q : (β × γ) × Nat} (hp : p ∈ E) (hq : q ∈ E) (h : p.1.1 = q.1.1) : p = q := by
  induction E with
  | nil => cases hp
  | cons x E ih =>
    rw [List.map_cons, List.nodup_cons] at hn
    obtain ⟨h1, h2⟩ := hn
    have hall : ∀ y ∈ E, y.1.1 ≠ x.1.1 := fun y hy e => h1 (List.mem_map.2 ⟨y, hy, e⟩)
    rcases List.mem_cons.1 hp with hpx | hpE
    · rcases List.mem_cons.1 hq with hqx | hqE
      · rw [hpx, hqx]
      · exact absurd (by rw [← h, hpx]) (hall q hqE)
    · rcases List.mem_cons.1 hq with hqx | hqE
      · exact absurd (by rw [h, hqx]) (hall p hpE)
      · exact ih h2 hpE hqE
theorem gmE_len {V : β → AV} {U : γ → AV} (E : List ((β × γ) × Nat)) : (gmE V U E).length = E.length := by simp [gmE]
theorem gm_ent {φ : Fi} {V : β → AV} {U : γ → AV} {kt : TypeId} (F : KeyF P kt V) (G : ValF U) {E : List ((β × γ) × Nat)} {ces : Array MapEntry} (hes : ∀ (i : Nat) (x : AV × AV × Nat), (gmE V U E)[i]? = some x → ∃ e, ces[i]? = some e ∧ VR φ x.1 e.key ∧ VR φ x.2.1 e.val ∧ e.born = x.2.2) :
    ∀ (i : Nat) (p : (β × γ) × Nat), E[i]? = some p → ∃ e, ces[i]? = some e ∧ e.key = F.den p.1.1 ∧ e.val = G.den p.1.2 ∧ e.born = p.2 := fun i p hp => by
  obtain ⟨e, h1, h2, h3, h4⟩ := hes i (V p.1.1, U p.1.2, p.2) (by simp [gmE, hp])
  exact ⟨e, h1, F.val φ p.1.1 _ h2, G.val φ _ _ h3, h4⟩
theorem gm_all {V : β → AV} {U : γ → AV} {kt : TypeId} (F : KeyF P kt V) (G : ValF U) {E : List ((β × γ) × Nat)} {ces : Array MapEntry} (hsz : ces.size = E.length) (hent : ∀ (i : Nat) (p : (β × γ) × Nat), E[i]? = some p → ∃ e, ces[i]? = some e ∧ e.key = F.den p.1.1 ∧ e.val = G.den p.1.2 ∧ e.born = p.2) :
    ∀ e ∈ ces.toList, ∃ p, p ∈ E ∧ e.key = F.den p.1.1 := fun e he => by
  obtain ⟨i, hi, he2⟩ := List.getElem_of_mem he
  have hil : i < E.length := by rw [← hsz]; simpa using hi
  obtain ⟨e', h1, h2, _⟩ := hent i E[i] (List.getElem?_eq_getElem hil)
  have : e' = e := by
    rw [← Array.getElem?_toList, List.getElem?_eq_getElem hi, he2] at h1
    exact (Option.some.inj h1).symm
  subst this
  exact ⟨E[i], List.getElem_mem hil, h2⟩
variable [DecidableEq β]
def gmGet (z : γ) (E : List ((β × γ) × Nat)) (b : β) : γ := match E.find? (fun p => decide (p.1.1 = b)) with
  | some p => p.1.2
  | none => z
def gmHas (E : List ((β × γ) × Nat)) (b : β) : Bool := decide (b ∈ E.map (·.1.1))
def gmPut (E : List ((β × γ) × Nat)) (b : β) (v : γ) (clock : Nat) : List ((β × γ) × Nat) := if b ∈ E.map (·.1.1) then E.map (fun p => if p.1.1 = b then ((p.1.1, v), p.2) else p) else E ++ [((b, v), clock)]
def gmC (E : List ((β × γ) × Nat)) (b : β) (clock : Nat) : Nat := if b ∈ E.map (·.1.1) then clock else clock + 1
theorem gmGet_at {z : γ} {E : List ((β × γ) × Nat)} (hn : (E.map (·.1.1)).Nodup) {p : (β × γ) × Nat} (hp : p ∈ E) : gmGet z E p.1.1 = p.1.2 := by
  unfold gmGet
  cases hf : E.find? (fun q => decide (q.1.1 = p.1.1)) with
  | none => exact absurd (List.find?_eq_none.1 hf p hp) (by simp)
  | some q =>
    have h1 := List.mem_of_find?_eq_some hf
    have h2 := List.find?_some hf
    have h3 : q.1.1 = p.1.1 := by simpa using h2
    rw [gm_nodup hn h1 hp h3]
theorem gmGet_not {z : γ} {E : List ((β × γ) × Nat)} {b : β} (h : b ∉ E.map (·.1.1)) : gmGet z E b = z := by
  unfold gmGet
  have : E.find? (fun p => decide (p.1.1 = b)) = none := List.find?_eq_none.2 fun p hp hb => h (List.mem_map.2 ⟨p, hp, by simpa using hb⟩)
  rw [this]
theorem gmPut_keys (E : List ((β × γ) × Nat)) (b : β) (v : γ) (clock : Nat) : (gmPut E b v clock).map (·.1.1) = if b ∈ E.map (·.1.1) then E.map (·.1.1) else E.map (·.1.1) ++ [b] := by
  unfold gmPut
  split
  · rw [List.map_map]
    exact List.map_congr_left fun p _ => by
      show (if p.1.1 = b then ((p.1.1, v), p.2) else p).1.1 = p.1.1
      split <;> rfl
  · rw [List.map_append]; rfl
theorem gmPut_nodup {E : List ((β × γ) × Nat)} (hn : (E.map (·.1.1)).Nodup) (b : β) (v : γ) (clock : Nat) : ((gmPut E b v clock).map (·.1.1)).Nodup := by
  rw [gmPut_keys]
  split
  · exact hn
  · rename_i h
    exact List.nodup_append.2 ⟨hn, by simp, fun x hx y hy => by
      rw [List.mem_singleton] at hy
      subst hy
      exact fun e => h (e ▸ hx)⟩
theorem gmGet_put {z : γ} {E : List ((β × γ) × Nat)} (hn : (E.map (·.1.1)).Nodup) (b : β) (v : γ) (clock : Nat) (c : β) : gmGet z (gmPut E b v clock) c = if c = b then v else gmGet z E c := by
  have hn2 := gmPut_nodup hn b v clock
  by_cases hc : c ∈ (gmPut E b v clock).map (·.1.1)
  · obtain ⟨p, hp, rfl⟩ := List.mem_map.1 hc
    have h1 := gmGet_at (z := z) hn2 hp
    show gmGet z (gmPut E b v clock) p.1.1 = _
    rw [h1]
    unfold gmPut at hp
    split at hp
    · obtain ⟨q, hq, rfl⟩ := List.mem_map.1 hp
      by_cases e : q.1.1 = b
      · simp only [e, if_true]
      · simp only [e, if_false]
        exact (gmGet_at hn hq).symm
    · rename_i hb
      rcases List.mem_append.1 hp with hq | hq
      · have hne : p.1.1 ≠ b := fun e => hb (e ▸ List.mem_map.2 ⟨p, hq, rfl⟩)
        rw [if_neg hne]; exact (gmGet_at hn hq).symm
      · rw [List.mem_singleton] at hq
        subst hq; simp
  · rw [gmGet_not hc]
    rw [gmPut_keys] at hc
    have hcb : c ≠ b := fun e => hc (by subst e; split <;> simp_all)
    have hcE : c ∉ E.map (·.1.1) := fun h => hc (by split <;> simp_all)
    rw [if_neg hcb, gmGet_not hcE]
theorem gmLook_ok {φ : Fi} {st : St} {w : World} {t kt e : TypeId} {V : β → AV} {U : γ → AV} (K : Maps.Keyed P kt) (F : KeyF P kt V) (G : ValF U) {b : β} {z : γ} {u : Value} {id clock : Nat} {E : List ((β × γ) × Nat)} (hn : (E.map (·.1.1)).Nodup) (hr : Rel φ st w) (ha : VR φ (.mp id) u)
    (hu : P.underlying t = some (.map kt e)) (hz : ZeroG P e (G.den z)) (hm : st.h.get id = some (.map (gmE V U E) clock)) (ok : Bool) :
    (Instr.lookup t u (F.den b) ok).run P w = .ok (if ok then .tuple #[G.den (gmGet z E b), .bool (gmHas E b)] else G.den (gmGet z E b)) w := by
  obtain ⟨rfl, hid⟩ := ha.mp_inv
  obtain ⟨lx, hlx⟩ := F.key b
  obtain ⟨ces, hb, hsz, hes⟩ := hr.obj id _ hm
  rw [gmE_len] at hsz
  have hent := gm_ent F G hes
  have hall := gm_all F G hsz hent
  have hfind := K.find w hlx ces.toList fun e he => by
    obtain ⟨p, _, h2⟩ := hall e he
    rw [h2]; exact F.key p.1.1
  rcases hfind with ⟨hrun, hne⟩ | ⟨j, e0, hrun, hj, hje⟩
  · have hnot : b ∉ E.map (·.1.1) := fun hin => by
      obtain ⟨p, hp, hpb⟩ := List.mem_map.1 hin
      obtain ⟨i, hi, rfl⟩ := List.getElem_of_mem hp
      obtain ⟨e, h1, h2, _⟩ := hent i E[i] (List.getElem?_eq_getElem hi)
      rw [← Array.getElem?_toList] at h1
      exact hne e (List.mem_of_getElem? h1) (by rw [h2, hpb])
    have e1 : gmHas E b = false := decide_eq_false hnot
    rw [gmGet_not hnot, e1]
    cases ok <;> simp [Instr.lookup, run_underlying hu, MapKept.run_getObj_map hb, K.check w _ hlx, hrun, hz w, Result.andThen]
  · have hjl : j < E.length := by
      have : j < ces.toList.length := (List.getElem?_eq_some_iff.1 hj).1
      rw [← hsz]; simpa using this
    have hjc : ces[j]? = some e0 := by rw [← Array.getElem?_toList]; exact hj
    obtain ⟨e', k1, k2, k3, k4⟩ := hent j E[j] (List.getElem?_eq_getElem hjl)
    have hee : e' = e0 := by rw [hjc] at k1; exact (Option.some.inj k1).symm
    subst hee
    have hb2 : E[j].1.1 = b := F.inj _ _ (by rw [← k2, hje])
    have hin : b ∈ E.map (·.1.1) := List.mem_map.2 ⟨E[j], List.getElem_mem hjl, hb2⟩
    have e1 : gmHas E b = true := decide_eq_true hin
    have e2 : gmGet z E b = E[j].1.2 := by rw [← hb2]; exact gmGet_at hn (List.getElem_mem hjl)
    rw [e1, e2]
    cases ok <;> simp [Instr.lookup, run_underlying hu, MapKept.run_getObj_map hb, K.check w _ hlx, hrun, k3, Result.andThen]
theorem gmUpd_ok {hT : TOk P T} {φ : Fi} {st : St} {w : World} {t kt : TypeId} {V : β → AV} {U : γ → AV} (K : Maps.Keyed P kt) (F : KeyF P kt V) (G : ValF U) {b : β} {v : γ} {u ku vu : Value} {id clock : Nat} {E : List ((β × γ) × Nat)} (hn : (E.map (·.1.1)).Nodup) (hr : Rel φ st w) (ha : VR φ (.mp id) u) (hku : VR φ (V b) ku) (hvu : VR φ (U v) vu)
    (hd : mapD T t = some kt) (hm : st.h.get id = some (.map (gmE V U E) clock)) :
    ∃ w', (Instr.mapUpdate t u ku vu).run P w = .ok () w' ∧ Rel φ ⟨st.h.set id (.map (gmE V U (gmPut E b v clock)) (gmC E b clock)), st.n⟩ w' ∧ Fr φ st w φ ⟨st.h.set id (.map (gmE V U (gmPut E b v clock)) (gmC E b clock)), st.n⟩ w' := by
  obtain ⟨e, hu⟩ := mapD_ok hT hd
  obtain ⟨rfl, hid⟩ := ha.mp_inv
  obtain rfl := G.val φ v vu hvu
  obtain rfl := F.val φ b ku hku
  obtain ⟨lx, hlx⟩ := F.key b
  obtain ⟨ces, hb, hsz, hes⟩ := hr.obj id _ hm
  rw [gmE_len] at hsz
  have hent := gm_ent F G hes
  have hall := gm_all F G hsz hent
  have hfind := K.find w hlx ces.toList fun e he => by
    obtain ⟨p, _, h2⟩ := hall e he
    rw [h2]; exact F.key p.1.1
  have hcheck := K.check w false hlx
  rcases hfind with ⟨hrun, hne⟩ | ⟨j, e0, hrun, hj, hje⟩
  · have hnot : b ∉ E.map (·.1.1) := fun hin => by
      obtain ⟨p, hp, hpb⟩ := List.mem_map.1 hin
      obtain ⟨i, hi, rfl⟩ := List.getElem_of_mem hp
      obtain ⟨e, h1, h2, _⟩ := hent i E[i] (List.getElem?_eq_getElem hi)
      rw [← Array.getElem?_toList] at h1
      exact hne e (List.mem_of_getElem? h1) (by rw [h2, hpb])
    have e1 : gmPut E b v clock = E ++ [((b, v), clock)] := if_neg hnot
    have e2 : gmC E b clock = clock + 1 := if_neg hnot
    rw [e1, e2]
    have := setHeap_ok (o' := .map (gmE V U (E ++ [((b, v), clock)])) (clock + 1)) hr hm rfl rfl rfl (.map (ces.push { key := F.den b, val := G.den v, born := clock }) (clock + 1)) (fun w' hw' => ⟨_, hw', by simp [hsz, gmE], fun i x hx => by
      by_cases hi : i < E.length
      · have hx2 : (gmE V U E)[i]? = some x := by
          simp only [gmE, List.map_append] at hx ⊢
          rwa [List.getElem?_append_left (by simpa using hi)] at hx
        obtain ⟨e, k1, k2⟩ := hes i x hx2
        exact ⟨e, by rw [Array.getElem?_push_lt (by omega), ← k1, Array.getElem?_eq_getElem (by omega)], k2⟩
      · have hie : i = E.length := by
          have : i < (gmE V U (E ++ [((b, v), clock)])).length := (List.getElem?_eq_some_iff.1 hx).1
          simp [gmE] at this; omega
        subst hie
        have hxx : x = (V b, U v, clock) := by
          simp [gmE] at hx; exact hx.symm
        subst hxx
        exact ⟨{ key := F.den b, val := G.den v, born := clock }, by rw [← hsz]; simp, hku, hvu, rfl⟩⟩)
    refine ⟨_, ?_, this.1, this.2⟩
    simp [Instr.mapUpdate, run_underlying hu, MapKept.run_getObj_map hb, hcheck, hrun, MapKept.run_setObj_map _ hb, Result.andThen]
  · have hjl : j < E.length := by
      have : j < ces.toList.length := (List.getElem?_eq_some_iff.1 hj).1
      rw [← hsz]; simpa using this
    have hjc : ces[j]? = some e0 := by rw [← Array.getElem?_toList]; exact hj
    obtain ⟨e', k1, k2, k3, k4⟩ := hent j E[j] (List.getElem?_eq_getElem hjl)
    have hee : e' = e0 := by rw [hjc] at k1; exact (Option.some.inj k1).symm
    subst hee
    have hb2 : E[j].1.1 = b := F.inj _ _ (by rw [← k2, hje])
    have hin : b ∈ E.map (·.1.1) := List.mem_map.2 ⟨E[j], List.getElem_mem hjl, hb2⟩
    have e1 : gmPut E b v clock = E.map (fun p => if p.1.1 = b then ((p.1.1, v), p.2) else p) := if_pos hin
    have e2 : gmC E b clock = clock := if_pos hin
    rw [e1, e2]
    have := setHeap_ok (o' := .map (gmE V U (E.map (fun p => if p.1.1 = b then ((p.1.1, v), p.2) else p))) clock) hr hm rfl rfl rfl (.map (ces.modify j fun e => { e with key := F.den b, val := G.den v }) clock) (fun w' hw' => ⟨_, hw', by simp [hsz, gmE], fun i x hx => by
      by_cases hi : i < E.length
      · have hxE : x = (V (if E[i].1.1 = b then ((E[i].1.1, v), E[i].2) else E[i]).1.1, U (if E[i].1.1 = b then ((E[i].1.1, v), E[i].2) else E[i]).1.2, (if E[i].1.1 = b then ((E[i].1.1, v), E[i].2) else E[i]).2) := by
          simp [gmE, hi] at hx
          exact hx.symm
        obtain ⟨e, q1, q2, q3, q4⟩ := hes i (V E[i].1.1, U E[i].1.2, E[i].2) (by simp [gmE, hi])
        by_cases hij : i = j
        · subst hij
          have : e = e' := by rw [hjc] at q1; exact (Option.some.inj q1).symm
          subst this
          rw [if_pos hb2] at hxE
          subst hxE
          refine ⟨{ e with key := F.den b, val := G.den v }, by simp [Array.getElem?_modify, hjc], ?_, hvu, q4⟩
          show VR φ (V E[i].1.1) (F.den b)
          rw [hb2]; exact hku
        · have hne : E[i].1.1 ≠ b := fun e1 => by
            have hp := List.pairwise_iff_getElem.1 hn
            have li : i < (E.map (·.1.1)).length := by simpa using hi
            have lj : j < (E.map (·.1.1)).length := by simpa using hjl
            rcases Nat.lt_or_gt_of_ne hij with hlt | hgt
            · exact hp i j li lj hlt (by rw [List.getElem_map, List.getElem_map]; exact e1.trans hb2.symm)
            · exact hp j i lj li hgt (by rw [List.getElem_map, List.getElem_map]; exact hb2.trans e1.symm)
          rw [if_neg hne] at hxE
          subst hxE
          exact ⟨e, by simp [Array.getElem?_modify, Ne.symm hij, q1], q2, q3, q4⟩
      · exfalso
        have : i < (gmE V U (E.map (fun p => if p.1.1 = b then ((p.1.1, v), p.2) else p))).length := (List.getElem?_eq_some_iff.1 hx).1
        simp [gmE] at this; omega⟩)
    refine ⟨_, ?_, this.1, this.2⟩
    have hstay := K.stays w hlx
    simp [Instr.mapUpdate, run_underlying hu, MapKept.run_getObj_map hb, hcheck, hrun, hjc, hje, hstay, MapKept.run_setObj_map _ hb, Result.andThen]
theorem OpsW.gmLook (hT : TOk P T) {rd : Option Nat} {ops : Array Oper} {L : Fm → St → Prop} {f : Fm} {st : St} {i : Nat} {l : List Nat} {t kt e : TypeId} {V : β → AV} {U : γ → AV} (K : Maps.Keyed P kt) (F : KeyF P kt V) (G : ValF U) (b : β) (z : γ) {kv : AV} {id clock : Nat} {E : List ((β × γ) × Nat)} (hn : (E.map (·.1.1)).Nodup)
    (hx : lookAt ops i f = some (t, .mp id, kv)) (hkv : Eqv kv (V b)) (hd : mapDE T t = some (kt, e)) (hz : ZeroG P e (G.den z)) (hm : st.h.get id = some (.map (gmE V U E) clock))
    (h : OpsW P rd ops l L (putAt ops i f (U (gmGet z E b))) st) : OpsW P rd ops (i :: l) L f st := by
  unfold lookAt at hx
  split at hx
  · cases hx
  · rename_i o ho
    split at hx
    · rename_i hw
      split at hx
      · rename_i t' m k hop
        simp only [Option.some.injEq, Prod.mk.injEq] at hx
        obtain ⟨rfl, e2, e3⟩ := hx
        have hput : ∀ v, putAt ops i f v = f.put o.dst v := fun v => by simp [putAt, ho]
        rw [hput] at h
        refine OpsW.value ho hw (fun c hc => by rw [hop] at hc; cases hc) (fun φ w a h2 h3 => ?_) h
        have hρ := opR_of h3.ts
        have a1 := hρ m
        have a2 := hρ k
        rw [e2] at a1; rw [e3] at a2
        have a3 := F.val φ b _ (hkv _ _ a2)
        have hrun := gmLook_ok (w := w) K F G (b := b) hn h2 a1 (mapDE_ok hT hd) hz hm false
        rw [← a3] at hrun
        exact ⟨φ, w, _, .inl (by simp [execOp, hop, hrun, Result.andThen]), G.ok _ _, h2, Ext.refl _, Fr.refl _ _ _⟩
      · cases hx
    · cases hx
theorem OpsW.gmUpd (hT : TOk P T) {rd : Option Nat} {ops : Array Oper} {L : Fm → St → Prop} {f : Fm} {st : St} {i : Nat} {l : List Nat} {t kt : TypeId} {V : β → AV} {U : γ → AV} (K : Maps.Keyed P kt) (F : KeyF P kt V) (G : ValF U) (b : β) (v : γ) {kv vv : AV} {id clock : Nat} {E : List ((β × γ) × Nat)} (hn : (E.map (·.1.1)).Nodup)
    (hx : updAt ops i f = some (t, .mp id, kv, vv)) (hkv : Eqv kv (V b)) (hvv : Eqv vv (U v)) (hd : mapD T t = some kt) (hm : st.h.get id = some (.map (gmE V U E) clock))
    (h : OpsW P rd ops l L (putAt ops i f undA) ⟨st.h.set id (.map (gmE V U (gmPut E b v clock)) (gmC E b clock)), st.n⟩) : OpsW P rd ops (i :: l) L f st := by
  unfold updAt at hx
  split at hx
  · cases hx
  · rename_i o ho
    split at hx
    · rename_i hw
      split at hx
      · rename_i t' m k x hop
        simp only [Option.some.injEq, Prod.mk.injEq] at hx
        obtain ⟨rfl, e2, e3, e4⟩ := hx
        have hput : ∀ v, putAt ops i f v = f.put o.dst v := fun v => by simp [putAt, ho]
        rw [hput] at h
        refine OpsW.value ho hw (fun c hc => by rw [hop] at hc; cases hc) (fun φ w a h2 h3 => ?_) h
        have hρ := opR_of h3.ts
        have a1 := hρ m
        have a2 := hρ k
        have a3 := hρ x
        rw [e2] at a1; rw [e3] at a2; rw [e4] at a3
        obtain ⟨w', k2, k3, k4⟩ := gmUpd_ok (hT := hT) K F G hn h2 a1 (hkv _ _ a2) (hvv _ _ a3) hd hm
        exact ⟨φ, w', undef, .inr ⟨by simp [execOp, hop, k2, Result.andThen], rfl⟩, .lit _, k3, Ext.refl _, k4⟩
      · cases hx
    · cases hx
end
end Go.Fz
namespace Go.Fz
set_option maxRecDepth 100000
set_option linter.unusedVariables false
structure YardD where
  last : Int
  hands : Int
  nb : Nat
  lng : Nat → Int
  blo : Nat → Int
  bhi : Nat → Int
  nc : Nat
  cb : Nat → Int
  clo : Nat → Int
  chi : Nat → Int
def YardD.mt (y : YardD) (f : Nat → Int) (b : Nat) (w : Int) : Bool := decide (f b ≤ w) && decide (w ≤ f b + y.lng b - 1)
def YardD.busyP (y : YardD) (P : List Nat) (f : Nat → Int) (w : Int) : Nat := (P.filter (fun b => y.mt f b w)).length
def YardD.endsB (y : YardD) (b : Nat) (v : Int) : Bool := decide (v + y.lng b - 1 ≤ y.last)
def YardD.handsB (y : YardD) (P : List Nat) (f : Nat → Int) (b : Nat) (v : Int) : Bool := decide (∀ k : Nat, k < (y.lng b).toNat → (y.busyP P f (v + k) : Int) < y.hands)
def YardD.apartB (y : YardD) (P : List Nat) (f : Nat → Int) (b : Nat) (v : Int) : Bool := decide (∀ k : Nat, k < (y.lng b).toNat → ¬ (0 < b ∧ b - 1 ∈ P ∧ y.mt f (b - 1) (v + k) = true))
def YardD.okAt (y : YardD) (P : List Nat) (f : Nat → Int) (b : Nat) (v : Int) : Bool := y.endsB b v && y.handsB P f b v && y.apartB P f b v
section
variable {α : Type}
def foldS (y : YardD) (next : α → (Nat → Int) → α) : List Nat → List Nat → (Nat → Int) → α → α
  | [], _, f, a => next a f
  | b :: L, P, f, a => foldV (fun v a => if y.okAt P f b v = true then foldS y next L (P ++ [b]) (setI f b v) a else a) (y.blo b) (y.bhi b - y.blo b + 1).toNat a
end
def YardD.schP (y : YardD) : List Nat → List Nat → (Nat → Int) → Prop
  | [], _, _ => True
  | b :: L, P, g => (y.blo b ≤ g b ∧ g b ≤ y.bhi b ∧ y.okAt P g b (g b) = true) ∧ y.schP L (P ++ [b]) g
theorem foldV_exS {α : Type} {S : α → Prop} {F : Int → α → α} {G : Int → Prop} (h : ∀ v a, S (F v a) ↔ S a ∨ G v) (l : Int) (a : α) : ∀ c, S (foldV F l c a) ↔ S a ∨ ∃ v, l ≤ v ∧ v < l + (c : Nat) ∧ G v
  | 0 => by
    constructor
    · exact .inl
    · rintro (h | ⟨v, h1, h2, _⟩)
      · exact h
      · omega
  | c + 1 => by
    show S (F _ _) ↔ _
    rw [h, foldV_exS h l a c]
    constructor
    · rintro ((h1 | ⟨v, h1, h2, h3⟩) | h1)
      · exact .inl h1
      · exact .inr ⟨v, h1, by omega, h3⟩
      · exact .inr ⟨l + c, by omega, by omega, h1⟩
    · rintro (h1 | ⟨v, h1, h2, h3⟩)
      · exact .inl (.inl h1)
      · by_cases e : v = l + c
        · subst e; exact .inr h3
        · exact .inl (.inr ⟨v, h1, by omega, h3⟩)
theorem mt_congr (y : YardD) {f g : Nat → Int} {b : Nat} (h : f b = g b) (w : Int) : y.mt f b w = y.mt g b w := by unfold YardD.mt; rw [h]
theorem busy_congr (y : YardD) {f g : Nat → Int} {P : List Nat} (h : ∀ b ∈ P, f b = g b) (w : Int) : y.busyP P f w = y.busyP P g w := by
  unfold YardD.busyP
  rw [List.filter_congr fun b hb => mt_congr y (h b hb) w]
theorem ok_congr (y : YardD) {f g : Nat → Int} {P : List Nat} (h : ∀ b ∈ P, f b = g b) (b : Nat) (v : Int) : y.okAt P f b v = y.okAt P g b v := by
  unfold YardD.okAt YardD.handsB YardD.apartB
  have h1 : (∀ k : Nat, k < (y.lng b).toNat → (y.busyP P f (v + k) : Int) < y.hands) ↔ (∀ k : Nat, k < (y.lng b).toNat → (y.busyP P g (v + k) : Int) < y.hands) := by
    constructor
    · intro q k hk; rw [← busy_congr y h]; exact q k hk
    · intro q k hk; rw [busy_congr y h]; exact q k hk
  have h2 : (∀ k : Nat, k < (y.lng b).toNat → ¬ (0 < b ∧ b - 1 ∈ P ∧ y.mt f (b - 1) (v + k) = true)) ↔ (∀ k : Nat, k < (y.lng b).toNat → ¬ (0 < b ∧ b - 1 ∈ P ∧ y.mt g (b - 1) (v + k) = true)) := by
    constructor
    · rintro q k hk ⟨h3, h4, h5⟩; exact q k hk ⟨h3, h4, by rw [mt_congr y (h _ h4)]; exact h5⟩
    · rintro q k hk ⟨h3, h4, h5⟩; exact q k hk ⟨h3, h4, by rw [← mt_congr y (h _ h4)]; exact h5⟩
  rw [decide_eq_decide.2 h1, decide_eq_decide.2 h2]
theorem foldS_ex {α : Type} {y : YardD} {next : α → (Nat → Int) → α} {S : α → Prop} {G : (Nat → Int) → Prop} (h : ∀ a f, S (next a f) ↔ S a ∨ G f) : ∀ (L P : List Nat) (f : Nat → Int) (a : α), L.Nodup → (∀ b ∈ L, b ∉ P) →
    (S (foldS y next L P f a) ↔ S a ∨ ∃ g, (∀ b, b ∉ L → g b = f b) ∧ y.schP L P g ∧ G g)
  | [], P, f, a, _, _ => by
    show S (next a f) ↔ _
    rw [h]
    constructor
    · rintro (h1 | h1)
      · exact .inl h1
      · exact .inr ⟨f, fun _ _ => rfl, trivial, h1⟩
    · rintro (h1 | ⟨g, h1, _, h2⟩)
      · exact .inl h1
      · have : g = f := funext fun b => h1 b (by simp)
        rw [← this]; exact .inr h2
  | b :: L, P, f, a, hnd, hP => by
    have hbL : b ∉ L := (List.nodup_cons.1 hnd).1
    have hL := (List.nodup_cons.1 hnd).2
    have hP2 : ∀ c ∈ L, c ∉ P ++ [b] := fun c hc hcp => by
      rcases List.mem_append.1 hcp with h1 | h1
      · exact hP c (List.mem_cons_of_mem _ hc) h1
      · rw [List.mem_singleton] at h1
        subst h1; exact hbL hc
    have step : ∀ v a, S (if y.okAt P f b v = true then foldS y next L (P ++ [b]) (setI f b v) a else a) ↔ S a ∨ (y.okAt P f b v = true ∧ ∃ g, (∀ c, c ∉ L → g c = setI f b v c) ∧ y.schP L (P ++ [b]) g ∧ G g) := fun v a => by
      by_cases hok : y.okAt P f b v = true
      · rw [if_pos hok, foldS_ex h L (P ++ [b]) (setI f b v) a hL hP2]
        constructor
        · rintro (h1 | h1)
          · exact .inl h1
          · exact .inr ⟨hok, h1⟩
        · rintro (h1 | ⟨_, h1⟩)
          · exact .inl h1
          · exact .inr h1
      · rw [if_neg hok]
        constructor
        · exact .inl
        · rintro (h1 | ⟨h1, _⟩)
          · exact h1
          · exact absurd h1 hok
    show S (foldV _ _ _ _) ↔ _
    rw [foldV_exS step]
    constructor
    · rintro (h1 | ⟨v, h1, h2, hok, g, h3, h4, h5⟩)
      · exact .inl h1
      · have hgb : g b = v := by rw [h3 b hbL, setI_self]
        refine .inr ⟨g, fun c hc => ?_, ⟨⟨by omega, by omega, ?_⟩, h4⟩, h5⟩
        · have hcb : c ≠ b := fun e => hc (by rw [e]; exact List.mem_cons_self)
          rw [h3 c (fun hcL => hc (List.mem_cons_of_mem _ hcL)), setI_ne hcb]
        · rw [hgb, ← hok]
          refine ok_congr y (fun c hc => ?_) b v
          have hcb : c ≠ b := fun e => hP b List.mem_cons_self (e ▸ hc)
          have hcL : c ∉ L := fun hcL => hP c (List.mem_cons_of_mem _ hcL) hc
          rw [h3 c hcL, setI_ne hcb]
    · rintro (h1 | ⟨g, h3, ⟨⟨h4, h5, hok⟩, h6⟩, h7⟩)
      · exact .inl h1
      · refine .inr ⟨g b, h4, by omega, ?_, g, fun c hc => ?_, h6, h7⟩
        · rw [← hok]
          refine ok_congr y (fun c hc => ?_) b (g b)
          have hcb : c ≠ b := fun e => hP b List.mem_cons_self (e ▸ hc)
          have hcL : c ∉ L := fun hcL => hP c (List.mem_cons_of_mem _ hcL) hc
          exact (h3 c (fun hm => (List.mem_cons.1 hm).elim hcb hcL)).symm
        · by_cases e : c = b
          · subst e; rw [setI_self]
          · rw [setI_ne e]; exact h3 c (fun hm => (List.mem_cons.1 hm).elim e hc)
structure YardD.Sch (y : YardD) (L : List Nat) (g : Nat → Int) : Prop where
  rng : ∀ b ∈ L, y.blo b ≤ g b ∧ g b ≤ y.bhi b
  fin : ∀ b ∈ L, g b + y.lng b - 1 ≤ y.last
  few : ∀ w : Int, (∃ b ∈ L, y.mt g b w = true) → (y.busyP L g w : Int) ≤ y.hands
  apt : ∀ b ∈ L, 0 < b → b - 1 ∈ L → ∀ w : Int, y.mt g b w = true → ¬ y.mt g (b - 1) w = true
theorem mt_iff (y : YardD) (g : Nat → Int) (b : Nat) (w : Int) : y.mt g b w = true ↔ ∃ k : Nat, k < (y.lng b).toNat ∧ w = g b + k := by
  unfold YardD.mt
  rw [Bool.and_eq_true, decide_eq_true_eq, decide_eq_true_eq]
  constructor
  · rintro ⟨h1, h2⟩; exact ⟨(w - g b).toNat, by omega, by omega⟩
  · rintro ⟨k, h1, h2⟩; omega
theorem busy_append (y : YardD) (P Q : List Nat) (g : Nat → Int) (w : Int) : y.busyP (P ++ Q) g w = y.busyP P g w + y.busyP Q g w := by
  unfold YardD.busyP; rw [List.filter_append, List.length_append]
theorem okAt_iff (y : YardD) (P : List Nat) (f : Nat → Int) (b : Nat) (v : Int) : y.okAt P f b v = true ↔ v + y.lng b - 1 ≤ y.last ∧ (∀ k : Nat, k < (y.lng b).toNat → (y.busyP P f (v + k) : Int) < y.hands) ∧ (∀ k : Nat, k < (y.lng b).toNat → ¬ (0 < b ∧ b - 1 ∈ P ∧ y.mt f (b - 1) (v + k) = true)) := by
  unfold YardD.okAt YardD.endsB YardD.handsB YardD.apartB
  rw [Bool.and_eq_true, Bool.and_eq_true, decide_eq_true_eq, decide_eq_true_eq, decide_eq_true_eq, and_assoc]
theorem schP_iff (y : YardD) (g : Nat → Int) : ∀ (L P : List Nat), (P ++ L).Pairwise (· < ·) → y.Sch P g → (y.schP L P g ↔ y.Sch (P ++ L) g)
  | [], P, _, hP => by
    rw [List.append_nil]
    exact ⟨fun _ => hP, fun _ => trivial⟩
  | b :: L, P, hs, hP => by
    have hs2 : ((P ++ [b]) ++ L).Pairwise (· < ·) := by rw [List.append_assoc]; exact hs
    have hlt : ∀ c ∈ P, c < b := fun c hc => (List.pairwise_append.1 hs).2.2 c hc b List.mem_cons_self
    have hone : ∀ w, y.busyP [b] g w = if y.mt g b w = true then 1 else 0 := fun w => by
      unfold YardD.busyP
      rw [List.filter_cons]
      split <;> rfl
    have hnew : (y.blo b ≤ g b ∧ g b ≤ y.bhi b ∧ y.okAt P g b (g b) = true) ↔ y.Sch (P ++ [b]) g := by
      rw [okAt_iff]
      constructor
      · rintro ⟨h1, h2, h3, h4, h5⟩
        refine ⟨fun c hc => ?_, fun c hc => ?_, fun w hw => ?_, fun c hc h0 hc1 w hw hw1 => ?_⟩
        · rcases List.mem_append.1 hc with h | h
          · exact hP.rng c h
          · rw [List.mem_singleton] at h; subst h; exact ⟨h1, h2⟩
        · rcases List.mem_append.1 hc with h | h
          · exact hP.fin c h
          · rw [List.mem_singleton] at h; subst h; exact h3
        · rw [busy_append, hone]
          by_cases hm : y.mt g b w = true
          · obtain ⟨k, hk, rfl⟩ := (mt_iff y g b w).1 hm
            have := h4 k hk
            rw [if_pos hm]; omega
          · rw [if_neg hm]
            obtain ⟨c, hc, hcw⟩ := hw
            rcases List.mem_append.1 hc with h | h
            · have := hP.few w ⟨c, h, hcw⟩; omega
            · rw [List.mem_singleton] at h; subst h; exact absurd hcw hm
        · rcases List.mem_append.1 hc with h | h
          · rcases List.mem_append.1 hc1 with h' | h'
            · exact hP.apt c h h0 h' w hw hw1
            · rw [List.mem_singleton] at h'
              have := hlt c h; omega
          · rw [List.mem_singleton] at h
            subst h
            obtain ⟨k, hk, rfl⟩ := (mt_iff y g c w).1 hw
            rcases List.mem_append.1 hc1 with h' | h'
            · exact h5 k hk ⟨h0, h', hw1⟩
            · rw [List.mem_singleton] at h'; omega
      · intro hS
        have hb : b ∈ P ++ [b] := List.mem_append_right _ (by simp)
        refine ⟨(hS.rng b hb).1, (hS.rng b hb).2, hS.fin b hb, fun k hk => ?_, fun k hk => ?_⟩
        · have hm : y.mt g b (g b + k) = true := (mt_iff y g b _).2 ⟨k, hk, rfl⟩
          have := hS.few (g b + k) ⟨b, hb, hm⟩
          rw [busy_append, hone, if_pos hm] at this
          omega
        · rintro ⟨h0, h1, h2⟩
          exact hS.apt b hb h0 (List.mem_append_left _ h1) _ ((mt_iff y g b _).2 ⟨k, hk, rfl⟩) h2
    constructor
    · rintro ⟨h1, h2⟩
      have := (schP_iff y g L (P ++ [b]) hs2 (hnew.1 h1)).1 h2
      rw [List.append_assoc] at this; exact this
    · intro hS
      have hSub : y.Sch (P ++ [b]) g := by
        refine ⟨fun c hc => hS.rng c ?_, fun c hc => hS.fin c ?_, fun w hw => ?_, fun c hc h0 hc1 w => hS.apt c ?_ h0 ?_ w⟩
        · exact (by rw [show P ++ b :: L = (P ++ [b]) ++ L by rw [List.append_assoc]; rfl]; exact List.mem_append_left _ hc)
        · exact (by rw [show P ++ b :: L = (P ++ [b]) ++ L by rw [List.append_assoc]; rfl]; exact List.mem_append_left _ hc)
        · obtain ⟨c, hc, hcw⟩ := hw
          have := hS.few w ⟨c, by rw [show P ++ b :: L = (P ++ [b]) ++ L by rw [List.append_assoc]; rfl]; exact List.mem_append_left _ hc, hcw⟩
          rw [show P ++ b :: L = (P ++ [b]) ++ L by rw [List.append_assoc]; rfl, busy_append] at this
          omega
        · exact (by rw [show P ++ b :: L = (P ++ [b]) ++ L by rw [List.append_assoc]; rfl]; exact List.mem_append_left _ hc)
        · exact (by rw [show P ++ b :: L = (P ++ [b]) ++ L by rw [List.append_assoc]; rfl]; exact List.mem_append_left _ hc1)
      refine ⟨hnew.2 hSub, (schP_iff y g L (P ++ [b]) hs2 hSub).2 ?_⟩
      rw [List.append_assoc]; exact hS
theorem sch_nil (y : YardD) (g : Nat → Int) : y.Sch [] g := ⟨fun b hb => (by cases hb), fun b hb => (by cases hb), fun w ⟨b, hb, _⟩ => (by cases hb), fun b hb => (by cases hb)⟩
theorem foldS_all {α : Type} {y : YardD} {next : α → (Nat → Int) → α} {S : α → Prop} {G : (Nat → Int) → Prop} (h : ∀ a f, S (next a f) ↔ S a ∨ G f) {L : List Nat} (hL : L.Pairwise (· < ·)) (a : α) :
    S (foldS y next L [] (fun _ => 0) a) ↔ S a ∨ ∃ g, (∀ b, b ∉ L → g b = 0) ∧ y.Sch L g ∧ G g := by
  have hnd : L.Nodup := hL.imp fun h => Nat.ne_of_lt h
  rw [foldS_ex h L [] (fun _ => 0) a hnd (fun _ _ h => by cases h)]
  constructor
  · rintro (h1 | ⟨g, h1, h2, h3⟩)
    · exact .inl h1
    · exact .inr ⟨g, h1, by have := (schP_iff y g L [] hL (sch_nil y g)).1 h2; exact this, h3⟩
  · rintro (h1 | ⟨g, h1, h2, h3⟩)
    · exact .inl h1
    · exact .inr ⟨g, h1, (schP_iff y g L [] hL (sch_nil y g)).2 h2, h3⟩
end Go.Fz
