/- Own work of the verifier of watercress: FzA1, FzLw. -/
import Derived.Test.YtpaifaemkoblcaaNa13
import Derived.Test.YtpaifaemkoblcaaNa9
set_option linter.unusedVariables false
set_option linter.unusedSimpArgs false
set_option linter.unusedVariables false
namespace Go.Fz
def chE (lo hi : Nat → Int) : Nat → List Int → List (List Int)
  | 0, p => [p]
  | m + 1, p => (List.range (hi p.length - lo p.length + 1).toNat).flatMap fun (c : Nat) => chE lo hi m (p ++ [lo p.length + (c : Int)])
def zL (p : List Int) (i : Nat) : Int := p.getD i 0
def zV (p : List Int) : AV := intsV p.length false (zL p)
theorem zV_below (p : List Int) : Below 0 (zV p) := intsV_below _ _ _
theorem zL_lt {p q : List Int} {i : Nat} (h : i < p.length) : zL (p ++ q) i = zL p i := by
  unfold zL
  rw [List.getD_eq_getElem?_getD, List.getD_eq_getElem?_getD, List.getElem?_append_left h]
theorem zL_eq (p : List Int) (v : Int) : zL (p ++ [v]) p.length = v := by
  unfold zL; simp [List.getD_eq_getElem?_getD]
theorem mem_chE {lo hi : Nat → Int} : ∀ (m : Nat) (p l : List Int), l ∈ chE lo hi m p ↔ l.length = p.length + m ∧ (∀ i, i < p.length → zL l i = zL p i) ∧ ∀ i, p.length ≤ i → i < p.length + m → lo i ≤ zL l i ∧ zL l i ≤ hi i
  | 0, p, l => by
    show l ∈ [p] ↔ _
    rw [List.mem_singleton]
    constructor
    · rintro rfl; exact ⟨rfl, fun _ _ => rfl, fun i h1 h2 => by omega⟩
    · rintro ⟨h1, h2, _⟩
      refine List.ext_getElem (by omega) fun i k1 k2 => ?_
      have := h2 i k2
      unfold zL at this
      simpa [List.getD_eq_getElem?_getD, List.getElem?_eq_getElem k1, List.getElem?_eq_getElem k2] using this
  | m + 1, p, l => by
    show l ∈ (List.range _).flatMap _ ↔ _
    rw [List.mem_flatMap]
    constructor
    · rintro ⟨c, hc, hl⟩
      rw [List.mem_range] at hc
      obtain ⟨h1, h2, h3⟩ := (mem_chE m _ l).1 hl
      rw [List.length_append, List.length_singleton] at h1 h2 h3
      have hp : zL l p.length = lo p.length + (c : Int) := by rw [h2 _ (by omega), zL_eq]
      refine ⟨by omega, fun i hi => by rw [h2 i (by omega), zL_lt hi], fun i k1 k2 => ?_⟩
      rcases Nat.lt_or_ge p.length i with h | h
      · exact h3 i (by omega) (by omega)
      · obtain rfl : i = p.length := by omega
        rw [hp]; omega
    · rintro ⟨h1, h2, h3⟩
      have h4 := h3 p.length (Nat.le_refl _) (by omega)
      refine ⟨(zL l p.length - lo p.length).toNat, List.mem_range.2 (by omega), (mem_chE m _ l).2 ⟨by rw [List.length_append, List.length_singleton]; omega, fun i hi => ?_, fun i k1 k2 => ?_⟩⟩
      · rw [List.length_append, List.length_singleton] at hi
        rcases Nat.lt_or_ge i p.length with h | h
        · rw [zL_lt h]; exact h2 i h
        · obtain rfl : i = p.length := by omega
          rw [zL_eq]; omega
      · rw [List.length_append, List.length_singleton] at k1 k2
        exact h3 i (by omega) (by omega)
theorem flatMap_len {α β : Type} {F : α → List β} {B : Nat} : ∀ (l : List α), (∀ a ∈ l, (F a).length ≤ B) → (l.flatMap F).length ≤ l.length * B
  | [], _ => by simp
  | a :: l, h => by
    rw [List.flatMap_cons, List.length_append, List.length_cons, Nat.succ_mul]
    have h1 := h a List.mem_cons_self
    have h2 := flatMap_len l fun b hb => h b (List.mem_cons_of_mem _ hb)
    omega
theorem chE_len {lo hi : Nat → Int} : ∀ (m : Nat) (p : List Int), (∀ i, i < p.length + m → hi i - lo i + 1 ≤ 31) → (chE lo hi m p).length ≤ 31 ^ m
  | 0, p, _ => by simp [chE]
  | m + 1, p, h => by
    show ((List.range _).flatMap _).length ≤ _
    refine Nat.le_trans (flatMap_len (B := 31 ^ m) _ fun c _ => chE_len m _ fun i hi => ?_) ?_
    · rw [List.length_append, List.length_singleton] at hi
      exact h i (by omega)
    · rw [List.length_range, Nat.pow_succ, Nat.mul_comm]
      refine Nat.mul_le_mul_left _ ?_
      have := h p.length (by omega)
      omega
def FarmD.chL (f : FarmD) : List (List Int) := chE f.slo f.shi f.ns []
def FarmD.isCh (f : FarmD) (l : List Int) : Prop := l.length = f.ns ∧ ∀ i, i < f.ns → f.slo i ≤ zL l i ∧ zL l i ≤ f.shi i
theorem FarmD.mem_chL (f : FarmD) (l : List Int) : l ∈ f.chL ↔ f.isCh l := by
  unfold FarmD.chL FarmD.isCh
  rw [mem_chE]
  simp
end Go.Fz
set_option linter.unusedVariables false
namespace Go.Fz
section
variable {P : Program}
def LowO (m : Nat) (o : AObj) : Prop := o.fam = none ∧ o.own = true ∧ ∀ (ρ : Nat → Nat) (n : Nat), (∀ i, i < m → ρ i = i) → m ≤ n → RenX ρ n o o
def LowX (m : Nat) (h : Hp) : Prop := ∀ id o, h.get id = some o → id < m ∧ LowO m o
theorem LowX.cons {m id : Nat} {o : AObj} {h : Hp} (h1 : id < m) (h2 : LowO m o) (hh : LowX m h) : LowX m ((id, o) :: h) := fun j o' ho => by
  simp only [Hp.get] at ho
  split at ho
  · rename_i e; cases ho; subst e; exact ⟨h1, h2⟩
  · exact hh j o' ho
theorem LowX.nil {m : Nat} : LowX m [] := fun _ _ h => by cases h
theorem LowO.cells {m : Nat} {ro : Bool} {l : List AV} (hr : ro = false) (h : ∀ (ρ : Nat → Nat) (n : Nat), (∀ i, i < m → ρ i = i) → m ≤ n → RenVs ρ n l l) : LowO m (.cells none ro l) := by
  subst hr
  exact ⟨rfl, rfl, fun ρ n hρ hn => .base (.cells (h ρ n hρ hn))⟩
theorem LowO.ints {m : Nat} {l : List AV} (h : ∀ a ∈ l, Below 0 a) : LowO m (.cells none false l) := LowO.cells rfl fun ρ n _ _ => RenVs.closed h
theorem CallW.canonC {g : FuncId} {args : List AV} {st1 st2 : St} {ρ : Nat → Nat} (hargs : RenVs ρ st2.n args args) (hw : WeakX ρ st1 st2) {k2 k : AV → St → Prop} (h : CallW P g args st2 k2)
    (hk : ∀ v st2', k2 v st2' → Back ρ st1 st2 k v st2') : CallW P g args st1 k := fun φ w cargs n hr ha => by
  obtain ⟨r1, _⟩ := hw.ok hr
  exact (h _ w cargs n r1 (hargs.ok ha)).mono fun _ _ hc => hc.canon hr hw hk
theorem LowX.weak {m n : Nat} {H : Hp} (hH : LowX m H) : WeakX (fun i => i) ⟨H, n⟩ ⟨H, m⟩ :=
  ⟨fun id o ho => ⟨(hH id o ho).1, o, ho, (hH id o ho).2.2.2 _ _ (fun _ _ => rfl) (Nat.le_refl _)⟩, fun i j oi oj hi hj hij pi pj h1 h2 => ⟨hij, fun ⟨f, k1, k2⟩ => by
    have := (hH i pi h1).2.1
    rw [this] at k1; cases k1⟩⟩
theorem LowX.back {m n : Nat} {H H' : Hp} {k : AV → St → Prop} {v : AV} {st2' : St} (hmn : m ≤ n) (hk : k v ⟨H', n⟩) (hb : Below 0 v) (hl : LowX m H') (hn : m ≤ st2'.n) (hg : ∀ id o, Hp.get H' id = some o → st2'.h.get id = some o) : Back (fun i => i) ⟨H, n⟩ ⟨H, m⟩ k v st2' := by
  have hσ : ∀ i, i < m → (fun i => if i < m then i else st2'.n + i) i = i := fun i hi => if_pos hi
  refine ⟨⟨⟨H', n⟩, fun i => if i < m then i else st2'.n + i, hk, hb, Nat.le_refl _, ⟨fun id o ho => ?_, fun i j oi oj hi hj hij pi pj h1 h2 => ?_⟩, fun id hid => ?_⟩⟩
  · obtain ⟨h1, h2⟩ := hl id o ho
    refine ⟨Nat.lt_of_lt_of_le h1 hmn, o, ?_, h2.2.2 _ _ hσ hmn⟩
    show st2'.h.get (if id < m then id else st2'.n + id) = some o
    rw [if_pos h1]; exact hg id o ho
  · have hi1 := (hl i oi hi).1
    have hj1 := (hl j oj hj).1
    rw [if_pos hi1] at h1
    rw [if_pos hj1] at h2
    show (if i < m then i else st2'.n + i) ≠ (if j < m then j else st2'.n + j) ∧ _
    rw [if_pos hi1, if_pos hj1]
    refine ⟨hij, fun ⟨f, k1, k2⟩ => ?_⟩
    have e := (hg i oi hi).symm.trans h1
    cases e
    rw [(hl i _ hi).2.1] at k1; cases k1
  · by_cases hi : id < m
    · exact .inl ⟨if_pos hi, rfl, hi⟩
    · exact .inr (if_neg hi)
theorem CallW.low {g : FuncId} {args : List AV} {H : Hp} {m n : Nat} {k : AV → Hp → Prop} (hmn : m ≤ n) (hH : LowX m H) (hargs : RenVs (fun i => i) m args args)
    (h : CallW P g args ⟨H, m⟩ (fun v st' => ∃ H', k v H' ∧ Below 0 v ∧ LowX m H' ∧ m ≤ st'.n ∧ ∀ id o, Hp.get H' id = some o → st'.h.get id = some o)) : CallW P g args ⟨H, n⟩ (fun v st' => ∃ H', k v H' ∧ LowX m H' ∧ st' = ⟨H', n⟩) :=
  CallW.canonC hargs hH.weak h fun v st2' ⟨H', hk, hb, hl, hn, hg⟩ => LowX.back hmn ⟨H', hk, hl, rfl⟩ hb hl hn hg
theorem YieldW.low {y : Nat} {args : List AV} {H : Hp} {m n : Nat} {k : AV → Hp → Prop} (hy : y < m) (hmn : m ≤ n) (hH : LowX m H) (hargs : ∀ a ∈ args, Below 0 a)
    (h : YieldW P y args ⟨H, m⟩ (fun v st' => ∃ H', k v H' ∧ Below 0 v ∧ LowX m H' ∧ m ≤ st'.n ∧ ∀ id o, Hp.get H' id = some o → st'.h.get id = some o)) : YieldW P y args ⟨H, n⟩ (fun v st' => ∃ H', k v H' ∧ LowX m H' ∧ st' = ⟨H', n⟩) :=
  YieldW.canon (ρ := fun i => i) (st2 := ⟨H, m⟩) rfl hy hargs hH.weak h fun v st2' ⟨H', hk, hb, hl, hn, hg⟩ => LowX.back hmn ⟨H', hk, hl, rfl⟩ hb hl hn hg
end
end Go.Fz
