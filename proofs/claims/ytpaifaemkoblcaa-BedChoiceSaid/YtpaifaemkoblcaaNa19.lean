/- Own work of the verifier of watercress: FzA2. -/
import Derived.Test.YtpaifaemkoblcaaNa16
import Derived.Test.YtpaifaemkoblcaaNa18
set_option linter.unusedVariables false
set_option linter.unusedSimpArgs false
set_option linter.unusedVariables false
namespace Go.Fz
open Go.Proofs
set_option maxRecDepth 100000
def farmL (f : FarmD) : List AV := [springsV f, bedsV f, looksV f]
theorem farmL_below (f : FarmD) : ∀ a ∈ farmL f, Below 0 a := AllB.ok ⟨springsV_below f, bedsV_below f, looksV_below f, trivial⟩
def coV (fc : Nat) : AV := .fn (.func 131) [] [.ptr fc 0, .ptr 49 0, .ptr 50 0]
def coH (fc y : Nat) (A : Hp) : Hp := (50, .cells none false [coV fc]) :: (49, .cells none false [.yld y]) :: A
def laV (q : Nat) : List Int → AV
  | [] => nl3
  | v :: p => .sl q 0 (p.length + 1) 1 false
def laO (q : Nat) (fm : Option Nat) : List Int → Hp
  | [] => []
  | v :: p => [(q, .cells fm false (flatG 1 (intC (zL (v :: p))) (p.length + 1)))]
def Kept (L : Nat) (R : Hp) : Prop := ∀ x ∈ R, ∀ F X, L ≤ X → trunc1 F X false x.2 = x.2
theorem Kept.cells {L id : Nat} {fm : Option Nat} {ro : Bool} {G : List AV} {R : Hp} (h : G.length ≤ L) (k : Kept L R) : Kept L ((id, .cells fm ro G) :: R) := fun x hx F X hX => by
  rcases List.mem_cons.1 hx with rfl | hx
  · show (if fm = some F ∨ false = true then AObj.cells (some F) ro (G.take X) else .cells fm ro G) = .cells fm ro G
    split
    · rename_i e
      rcases e with e | e
      · rw [e, List.take_of_length_le (by omega)]
      · cases e
    · rfl
  · exact k x hx F X hX
theorem Kept.noFam {L id : Nat} {ro : Bool} {G : List AV} {R : Hp} (k : Kept L R) : Kept L ((id, .cells none ro G) :: R) := fun x hx F X hX => by
  rcases List.mem_cons.1 hx with rfl | hx
  · show (if none = some F ∨ false = true then AObj.cells (some F) ro (G.take X) else .cells none ro G) = _
    rw [if_neg (by simp)]
  · exact k x hx F X hX
structure CoI (fc n : Nat) (L : Nat) (R : Hp) (H : Nat → Hp) (qm : Nat) : Prop where
  lo : 51 ≤ n
  kept : Kept L R
  own : ∀ x ∈ R, 51 ≤ x.1 ∧ x.1 < n ∧ x.1 ≠ qm ∧ x.2.own = true
  qm : (qm = 48 ∨ 51 ≤ qm) ∧ qm < n
  H : LowM 49 H
theorem Hp.get_none {h : Hp} {id : Nat} (k : ∀ x ∈ h, x.1 ≠ id) : h.get id = none := by
  cases hg : h.get id with
  | none => rfl
  | some o => exact absurd rfl (k _ (Hp.mem_of_get hg))
theorem laO_mem {q : Nat} {fm : Option Nat} {p : List Int} {x : Nat × AObj} (h : x ∈ laO q fm p) : p ≠ [] ∧ x = (q, .cells fm false (flatG 1 (intC (zL p)) p.length)) := by
  cases p with
  | nil => cases h
  | cons v p => exact ⟨by simp, List.mem_singleton.1 h⟩
theorem co_low {fc y n L q id : Nat} {fm : Option Nat} {p : List Int} {R : Hp} {H : Nat → Hp} {qm : Nat} (hI : CoI fc n L R H qm) (hq : p ≠ [] → 51 ≤ q) (h : id < 49) : (coH fc y (laO q fm p ++ (R ++ H qm))).get id = (H qm).get id := by
  unfold coH
  simp only [Hp.get]
  rw [if_neg (by omega), if_neg (by omega), Hp.get_appR (Hp.get_none fun x hx => ?_), Hp.get_appR (Hp.get_none fun x hx => ?_)]
  · have := hI.own x hx; omega
  · obtain ⟨h1, rfl⟩ := laO_mem hx
    have := hq h1
    show q ≠ id
    omega
section
variable {P : Program} {T : Ti}
theorem load_springs {f : FarmD} {h : Hp} {id : Nat} {fm : Option Nat} {ro : Bool} (hg : h.get id = some (.cells fm ro (farmL f))) : loadA Fz.T h 34 (.ptr id 0) = some (springsV f) := by
  simp only [loadA, ptrOf, cellsAt, hg]
  rfl
theorem load_hi {lo hi : Int} {h : Hp} {id : Nat} {fm : Option Nat} {ro : Bool} (hg : h.get id = some (.cells fm ro [iV lo, iV hi])) : loadA Fz.T h 3 (.ptr id 1) = some (iV hi) := by
  simp only [loadA, ptrOf, cellsAt, hg]
  rfl
theorem load_lo {lo hi : Int} {h : Hp} {id : Nat} {fm : Option Nat} {ro : Bool} (hg : h.get id = some (.cells fm ro [iV lo, iV hi])) : loadA Fz.T h 3 (.ptr id 0) = some (iV lo) := by
  simp only [loadA, ptrOf, cellsAt, hg]
  rfl
end
theorem app_co {t q n L : Nat} {fm : Option Nat} {fl : Nat → Int} {h0 : Hp} {v : Int} {ex : Bool} (hb : sliceB T t 1 = true) (hg : h0.get q = some (.cells fm false (flatG 1 (intC fl) L))) (hq : q < n) (hL : L < 1000) (h2 : Hp)
    (hs : ∀ id o, h2.get id = some o → id < n ∧ ∃ o0, h0.get id = some o0 ∧ trunc1 (fm.getD q) L (id == q) o0 = o) :
    ∃ h3, appendA T ⟨(n, .cells none false [iV v]) :: h0, n + 1⟩ t t (.sl q 0 L 1 false) (.sl n 0 1 1 ex) = some (.sl (n + 1) 0 (L + 1) 1 false, ⟨h3, n + 1 + 1⟩) ∧
      ∀ id o, Hp.get ((n + 1, .cells (some (fm.getD q)) false (flatG 1 (intC (setI fl L v)) (L + 1))) :: h2) id = some o → h3.get id = some o ∧ id < n + 1 + 1 := by
  obtain ⟨i, j, e, ht, hd, he, hz, h5, hb, hb0, hzl⟩ := sliceB_ok hb
  have hgq : Hp.get ((n, AObj.cells none false [iV v]) :: h0) q = some (.cells fm false (flatG 1 (intC fl) L)) := by
    simp only [Hp.get]
    rw [if_neg (by omega)]
    exact hg
  have hgn : Hp.get ((n, AObj.cells none false [iV v]) :: h0) n = some (.cells none false [iV v]) := by
    simp only [Hp.get]
    rw [if_pos trivial]
  have hlen : (flatG 1 (intC fl) L).length = L := by rw [flatG_length, Nat.mul_one]
  refine ⟨(n + 1, .cells (some (fm.getD q)) false (flatG 1 (intC (setI fl L v)) (L + 1))) :: truncH (fm.getD q) (L * 1) q ((n, AObj.cells none false [iV v]) :: h0), ?_, fun id o ho => ?_⟩
  · unfold appendA
    simp only [ht, hd, he, slCells, cellsAt, hgq, hgn, slLen, hz]
    rw [if_pos (show True ∧ 0 + L * 1 ≤ (flatG 1 (intC fl) L).length from ⟨trivial, by rw [hlen]; omega⟩), if_pos ⟨trivial, by simp⟩]
    simp only [Nat.mul_one, List.drop_zero]
    rw [show List.take 1 [iV v] = [iV v] from rfl, take_snoc fl L L (Nat.le_refl _) v, if_neg (by rw [show [iV v].all AV.one = true from rfl]; simp; omega), if_neg (by omega)]
    rfl
  · simp only [Hp.get] at ho ⊢
    by_cases e1 : n + 1 = id
    · rw [if_pos e1] at ho ⊢
      exact ⟨ho, by omega⟩
    · rw [if_neg e1] at ho ⊢
      obtain ⟨k1, o0, k2, k3⟩ := hs id o ho
      refine ⟨?_, by omega⟩
      show Hp.get ((n, _) :: truncH (fm.getD q) (L * 1) q h0) id = some o
      simp only [Hp.get]
      rw [if_neg (by omega), truncH_get, k2, Nat.mul_one]
      exact congrArg some k3
theorem app_co0 {t n : Nat} {h0 : Hp} {v : Int} {ex : Bool} (hb : sliceB T t 1 = true) :
    appendA T ⟨(n, .cells none false [iV v]) :: h0, n + 1⟩ t t nl3 (.sl n 0 1 1 ex) = some (.sl (n + 1) 0 1 1 false, ⟨(n + 1, .cells none false [iV v]) :: (n, .cells none false [iV v]) :: h0, n + 1 + 1⟩) :=
  append_nilB hb (by simp only [Hp.get]; rw [if_pos trivial]) rfl rfl
end Go.Fz
