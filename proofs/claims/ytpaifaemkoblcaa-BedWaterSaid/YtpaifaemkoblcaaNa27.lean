/- Own work of the verifier of watercress: FzB1. -/
import Derived.Test.YtpaifaemkoblcaaNa26
set_option linter.unusedVariables false
set_option linter.unusedSimpArgs false
set_option linter.unusedVariables false
namespace Go.Fz
open Go.Proofs
set_option maxRecDepth 100000
def nI (p : List Nat) : List Int := p.map fun (x : Nat) => (x : Int)
theorem nI_len (p : List Nat) : (nI p).length = p.length := List.length_map _
theorem nI_snoc (p : List Nat) (x : Nat) : nI (p ++ [x]) = nI p ++ [(x : Int)] := List.map_append
def liE (many : Nat) : Nat → List Nat → Nat → List (List Nat)
  | 0, p, _ => [p]
  | m + 1, p, s => (List.range (many - s)).flatMap fun c => liE many m (p ++ [s + c]) (s + c + 1)
theorem liE_none {many : Nat} : ∀ (m : Nat) (p : List Nat) (s : Nat), many < s + (m + 1) → liE many (m + 1) p s = []
  | 0, p, s, h => by
    show (List.range (many - s)).flatMap _ = []
    rw [show many - s = 0 by omega]; rfl
  | m + 1, p, s, h => by
    show (List.range (many - s)).flatMap (fun c => liE many (m + 1) (p ++ [s + c]) (s + c + 1)) = []
    rw [List.flatMap_eq_nil_iff]
    intro c hc
    exact liE_none m _ _ (by have := List.mem_range.1 hc; omega)
theorem liE_ris {many : Nat} : ∀ (m : Nat) (p : List Nat) (s : Nat), s ≤ many → liE many m p s = risE many m p s
  | 0, p, s, _ => rfl
  | 1, p, s, h => by
    show (List.range (many - s)).flatMap (fun c => liE many 0 (p ++ [s + c]) (s + c + 1)) = (List.range (many - 0 - s)).flatMap fun c => risE many 0 (p ++ [s + c]) (s + c + 1)
    rfl
  | m + 2, p, s, h => by
    show (List.range (many - s)).flatMap (fun c => liE many (m + 1) (p ++ [s + c]) (s + c + 1)) = (List.range (many - (m + 1) - s)).flatMap fun c => risE many (m + 1) (p ++ [s + c]) (s + c + 1)
    obtain ⟨r, hr⟩ : ∃ r, List.range (many - s) = List.range (many - (m + 1) - s) ++ r ∧ ∀ c ∈ r, many - (m + 1) - s ≤ c := by
      refine ⟨(List.range (many - s)).drop (many - (m + 1) - s), ?_, fun c hc => ?_⟩
      · have h1 := List.take_append_drop (many - (m + 1) - s) (List.range (many - s))
        rw [List.take_range, Nat.min_eq_left (by omega)] at h1
        exact h1.symm
      · obtain ⟨i, hi, e⟩ := List.getElem_of_mem hc
        rw [List.getElem_drop, List.getElem_range] at e
        omega
    rw [hr.1, List.flatMap_append, show r.flatMap (fun c => liE many (m + 1) (p ++ [s + c]) (s + c + 1)) = [] from by
      rw [List.flatMap_eq_nil_iff]
      intro c hc
      exact liE_none m _ _ (by have := hr.2 c hc; omega), List.append_nil]
    have hcg : ∀ l : List Nat, (∀ c ∈ l, c < many - (m + 1) - s) → l.flatMap (fun c => liE many (m + 1) (p ++ [s + c]) (s + c + 1)) = l.flatMap (fun c => risE many (m + 1) (p ++ [s + c]) (s + c + 1)) := fun l => by
      induction l with
      | nil => intro _; rfl
      | cons a l ih =>
        intro hl
        rw [List.flatMap_cons, List.flatMap_cons, ih fun c hc => hl c (List.mem_cons_of_mem _ hc), liE_ris (m + 1) _ _ (by have := hl a List.mem_cons_self; omega)]
    exact hcg _ fun c hc => List.mem_range.1 hc
def exV : AV := .fn (.func 128) [] [.ptr 40 0, .ptr 39 0, .ptr 35 0, .ptr 41 0]
def liH (y many len : Nat) (A : Hp) : Hp := (41, .cells none false [exV]) :: (40, .cells none false [iV (len : Int)]) :: (39, .cells none false [.yld y]) :: (35, .cells none false [iV (many : Int)]) :: A
structure LiI (n : Nat) (L : Nat) (R h : Hp) : Prop where
  lo : 42 ≤ n
  kept : Kept L R
  own : ∀ x ∈ R, 42 ≤ x.1 ∧ x.1 < n ∧ x.2.own = true
  h : LowX 38 h
theorem YieldW.asideX {P : Program} {y : Nat} {args : List AV} {R H : Hp} {m n : Nat} {k : AV → Hp → Prop} (hy : y < m) (hR : ∀ id o, R.get id = some o → H.get id = none ∧ o.own = true) (hmn : m ≤ n) (hH : LowX m H) (hargs : ∀ a ∈ args, Below 0 a)
    (h : YieldW P y args ⟨H, m⟩ (fun v st' => ∃ H', k v H' ∧ Below 0 v ∧ LowX m H' ∧ m ≤ st'.n ∧ ∀ id o, Hp.get H' id = some o → st'.h.get id = some o)) : YieldW P y args ⟨R ++ H, n⟩ (fun v st' => ∃ H', k v H' ∧ LowX m H' ∧ st' = ⟨R ++ H', n⟩) :=
  (YieldW.frame (R := R) (st := ⟨H, n⟩) ⟨fun id o h => (hR id o h).2, fun id o h => (hR id o h).1, fun i j oi oj hi hj ⟨f, _, k2⟩ => by
    rw [(hH j oj hj).2.1] at k2; cases k2⟩ (YieldW.low hy hmn hH hargs h) (fun v st' ⟨H', hk, hl, e⟩ => by subst e; exact fun id o ho => .inl (hl id o ho).2.2.1)).mono
    fun v s ⟨st', ⟨H', hk, hl, e⟩, es⟩ => by subst e; exact ⟨H', hk, hl, es⟩
section
variable (K : List (List Nat) → Hp → Prop) (stop : List (List Nat) → List Nat → Hp → Prop) (y many : Nat) (E : List (List Nat))
def liR (s : List (List Nat)) (l : List Nat) (v : AV) (h' : Hp) : Prop := (v = .lit (.bool true) ∧ K (s ++ [l]) h') ∨ (v = .lit (.bool false) ∧ stop s l h')
def liStep : Prop := ∀ s l post h, E = s ++ l :: post → K s h → YieldW Try.prog y [zV (nI l)] ⟨h, 38⟩ (fun v st' => ∃ h', liR K stop s l v h' ∧ Below 0 v ∧ LowX 38 h' ∧ 38 ≤ st'.n ∧ ∀ id o, Hp.get h' id = some o → st'.h.get id = some o)
def liQ (len n q : Nat) (R : Hp) (p : List Nat) (seen F : List (List Nat)) (v : AV) (st' : St) : Prop := ∃ h' n' fm', n ≤ n' ∧ LowX 38 h' ∧ st' = ⟨liH y many len (laO q fm' (nI p) ++ (R ++ h')), n'⟩ ∧ ((v = .lit (.bool true) ∧ K (seen ++ F) h') ∨ (v = .lit (.bool false) ∧ ∃ pre l post, F = pre ++ l :: post ∧ stop (seen ++ pre) l h'))
variable {K stop y many E}
theorem li_own {len n L q : Nat} {fm : Option Nat} {p : List Nat} {R h : Hp} (hI : LiI n L R h) (hq : p ≠ [] → 42 ≤ q ∧ q < n) :
    ∀ id o, Hp.get (liH y many len (laO q fm (nI p) ++ R)) id = some o → (id = 35 ∨ 38 ≤ id) ∧ o.own = true := fun id o ho => by
  unfold liH at ho
  rcases List.mem_cons.1 (Hp.mem_of_get ho) with h | h
  · cases h; exact ⟨by omega, rfl⟩
  rcases List.mem_cons.1 h with h | h
  · cases h; exact ⟨by omega, rfl⟩
  rcases List.mem_cons.1 h with h | h
  · cases h; exact ⟨by omega, rfl⟩
  rcases List.mem_cons.1 h with h | h
  · cases h; exact ⟨by omega, rfl⟩
  rcases List.mem_append.1 h with h | h
  · obtain ⟨h1, h2⟩ := laO_mem h
    cases h2
    have := hq (fun e => h1 (by rw [e]; rfl))
    exact ⟨by omega, rfl⟩
  · have := hI.own _ h
    exact ⟨by omega, this.2.2⟩
theorem liH_get {len : Nat} {A : Hp} {id : Nat} (h : id ≠ 41 ∧ id ≠ 40 ∧ id ≠ 39 ∧ id ≠ 35) : Hp.get (liH y many len A) id = Hp.get A id := by
  unfold liH
  simp only [Hp.get]
  rw [if_neg (by omega), if_neg (by omega), if_neg (by omega), if_neg (by omega)]
theorem liH_sub {len : Nat} {A B : Hp} {id : Nat} {o : AObj} (h : (id ≠ 41 ∧ id ≠ 40 ∧ id ≠ 39 ∧ id ≠ 35) → Hp.get A id = some o → Hp.get B id = some o) (hA : Hp.get (liH y many len A) id = some o) : Hp.get (liH y many len B) id = some o := by
  unfold liH at hA ⊢
  simp only [Hp.get] at hA ⊢
  by_cases e1 : 41 = id
  · rw [if_pos e1] at hA ⊢; exact hA
  · rw [if_neg e1] at hA ⊢
    by_cases e2 : 40 = id
    · rw [if_pos e2] at hA ⊢; exact hA
    · rw [if_neg e2] at hA ⊢
      by_cases e3 : 39 = id
      · rw [if_pos e3] at hA ⊢; exact hA
      · rw [if_neg e3] at hA ⊢
        by_cases e4 : 35 = id
        · rw [if_pos e4] at hA ⊢; exact hA
        · rw [if_neg e4] at hA ⊢
          exact h (by omega) hA
set_option maxHeartbeats 8000000 in
theorem li_leaf0 (hy : y < 38) (hlw : ∀ s h, K s h → LowX 38 h ∧ Hp.get h 35 = none) (step : liStep K stop y E) (len : Nat)  (hp : (([] : List Nat)).length = len) (hsm : len < 900) (s : Nat) (seen post : List (List Nat)) (hE : E = seen ++ [([] : List Nat)] ++ post) (n q : Nat) (fm : Option Nat) (R h : Hp)
    (hI : LiI n (([] : List Nat)).length R h) (hq : ([] : List Nat) ≠ [] → 42 ≤ q ∧ q < n) (hK : K seen h) :
    CallW Try.prog 128 [laV q (nI (([] : List Nat))), iV (s : Int), .ptr 40 0, .ptr 39 0, .ptr 35 0, .ptr 41 0] ⟨liH y many len (laO q fm (nI (([] : List Nat))) ++ (R ++ h)), n⟩ (liQ K stop y many len n q R (([] : List Nat)) seen [([] : List Nat)]) := by
  obtain ⟨O, hO⟩ : ∃ O : Ar, O = std := ⟨_, rfl⟩
  obtain ⟨hlow, h45⟩ := hlw _ _ hK
  have hs := YieldW.asideX (R := liH y many len (laO q fm (nI (([] : List Nat))) ++ R)) (n := n) hy (fun id o ho => by
    obtain ⟨k1, k2⟩ := li_own (len := len) (fm := fm) hI hq id o ho
    refine ⟨?_, k2⟩
    cases hg : Hp.get h id with
    | none => rfl
    | some o' =>
      have := (hlow id o' hg).1
      obtain rfl : id = 35 := by omega
      rw [h45] at hg; cases hg) (by have := hI.lo; omega) hlow (fun a ha => by rw [List.mem_singleton.1 ha]; exact zV_below _) (step seen (([] : List Nat)) post h (by rw [hE]; simp) hK)
  have happ : ∀ Hx : Hp, liH y many len (laO q fm (nI (([] : List Nat))) ++ R) ++ Hx = liH y many len (laO q fm (nI (([] : List Nat))) ++ (R ++ Hx)) := fun Hx => by simp [liH, List.append_assoc]
  have hs2 := hs.mono (k' := fun v st' => ∃ h', liR K stop seen (([] : List Nat)) v h' ∧ LowX 38 h' ∧ st' = ⟨liH y many len (laO q fm (nI (([] : List Nat))) ++ (R ++ h')), n⟩) (fun v st' ⟨H', h1, h2, h6⟩ => ⟨H', h1, h2, by rw [h6, happ]⟩)
  rw [happ] at hs2
  clear hs
  have c1 := fun st => clone_nil.call st
  have hfin : ∀ v h', liR K stop seen (([] : List Nat)) v h' → LowX 38 h' → liQ K stop y many len n q R (([] : List Nat)) seen [([] : List Nat)] v ⟨liH y many len (laO q fm (nI (([] : List Nat))) ++ (R ++ h')), n⟩ := fun v h' h1 h2 => ⟨h', n, fm, Nat.le_refl _, h2, rfl, by
    rcases h1 with ⟨h1, hk⟩ | ⟨h1, hk⟩
    · exact .inl ⟨h1, hk⟩
    · exact .inr ⟨h1, [], ([] : List Nat), [], rfl, by rw [List.append_nil]; exact hk⟩⟩
  have hRb : ∀ v h', liR K stop seen (([] : List Nat)) v h' → v = .lit (.bool true) ∨ v = .lit (.bool false) := fun v H' h => h.elim (fun h => .inl h.1) (fun h => .inr h.1)
  obtain ⟨Z, hZ⟩ : ∃ Z, zV (nI (([] : List Nat))) = Z := ⟨_, rfl⟩
  have c1 := fun st => (show CallW Try.prog 129 [nl3] st (fun v st' => v = Z ∧ st' = st) from by rw [← hZ]; exact c1 st)
  rw [hZ] at hs2
  obtain ⟨RR, hRR⟩ : ∃ r, liR K stop seen (([] : List Nat)) = r := ⟨_, rfl⟩
  rw [hRR] at hs2 hfin hRb
  obtain ⟨QQ, hQQ⟩ : ∃ r, liQ K stop y many len n q R (([] : List Nat)) seen [([] : List Nat)] = r := ⟨_, rfl⟩
  rw [hQQ] at hfin ⊢
  obtain ⟨A, hA⟩ : ∃ A : Hp → Hp, A = fun Hx => laO q fm (nI (([] : List Nat))) ++ (R ++ Hx) := ⟨_, rfl⟩
  have hA2 : ∀ Hx, laO q fm (nI (([] : List Nat))) ++ (R ++ Hx) = A Hx := fun Hx => by rw [hA]
  simp only [hA2] at hs2 hfin ⊢
  show CallW Try.prog 128 [nl3, _, _, _, _, _] _ _
  obtain ⟨AH, hAH⟩ : ∃ a, A h = a := ⟨_, rfl⟩
  rw [hAH] at hs2 ⊢
  unfold liH at hs2 hfin ⊢
  obtain rfl : len = 0 := hp.symm
  refine callW_of_body tok Try.func128 rfl ?_
  refine SW.seqRun tok hO (by cbv <;> rfl) (by trivial) ?_
  refine SW.seq ?_
  refine SW.seqRun tok hO (by cbv <;> rfl) (by trivial) ?_
  refine SW.condS (by cbv <;> rfl) (fun h1 => ?_) (fun h1 => ?_)
  rotate_left
  · exfalso
    subst hO; simp [std] at h1
  refine SW.seqRunD tok mixed hO (by kernel_rfl) (by cbv <;> rfl) (by trivial) ?_
  refine AnyE.callS en129 (c1 _) (by cbv <;> rfl) (by cbv <;> rfl) ?_
  refine AnyE.run tok hO (by kernel_rfl) (by cbv <;> rfl) (by trivial) ?_
  refine AnyE.apply (c := .yld y) (args := [Z]) (by cbv <;> rfl) (by cbv <;> rfl) hs2 fun v st' hk => ?_
  obtain ⟨H', h1, h2, rfl⟩ := hk
  have hf := hfin v H' h1 h2
  rcases hRb _ _ h1 with rfl | rfl
  · refine AnyE.run tok hO (by kernel_rfl) (by cbv <;> rfl) (by trivial) ?_
    exact SW.ret ⟨_, _, rfl, rfl, hf⟩
  · refine AnyE.run tok hO (by kernel_rfl) (by cbv <;> rfl) (by trivial) ?_
    exact SW.ret ⟨_, _, rfl, rfl, hf⟩
set_option maxHeartbeats 8000000 in
theorem li_leaf1 (hy : y < 38) (hlw : ∀ s h, K s h → LowX 38 h ∧ Hp.get h 35 = none) (step : liStep K stop y E) (len : Nat) (v0 : Nat) (p : List Nat) (hp : (v0 :: p).length = len) (hsm : len < 900) (s : Nat) (seen post : List (List Nat)) (hE : E = seen ++ [v0 :: p] ++ post) (n q : Nat) (fm : Option Nat) (R h : Hp)
    (hI : LiI n (v0 :: p).length R h) (hq : v0 :: p ≠ [] → 42 ≤ q ∧ q < n) (hK : K seen h) :
    CallW Try.prog 128 [laV q (nI (v0 :: p)), iV (s : Int), .ptr 40 0, .ptr 39 0, .ptr 35 0, .ptr 41 0] ⟨liH y many len (laO q fm (nI (v0 :: p)) ++ (R ++ h)), n⟩ (liQ K stop y many len n q R (v0 :: p) seen [v0 :: p]) := by
  obtain ⟨O, hO⟩ : ∃ O : Ar, O = std := ⟨_, rfl⟩
  obtain ⟨hlow, h45⟩ := hlw _ _ hK
  have hs := YieldW.asideX (R := liH y many len (laO q fm (nI (v0 :: p)) ++ R)) (n := n) hy (fun id o ho => by
    obtain ⟨k1, k2⟩ := li_own (len := len) (fm := fm) hI hq id o ho
    refine ⟨?_, k2⟩
    cases hg : Hp.get h id with
    | none => rfl
    | some o' =>
      have := (hlow id o' hg).1
      obtain rfl : id = 35 := by omega
      rw [h45] at hg; cases hg) (by have := hI.lo; omega) hlow (fun a ha => by rw [List.mem_singleton.1 ha]; exact zV_below _) (step seen (v0 :: p) post h (by rw [hE]; simp) hK)
  have happ : ∀ Hx : Hp, liH y many len (laO q fm (nI (v0 :: p)) ++ R) ++ Hx = liH y many len (laO q fm (nI (v0 :: p)) ++ (R ++ Hx)) := fun Hx => by simp [liH, List.append_assoc]
  have hs2 := hs.mono (k' := fun v st' => ∃ h', liR K stop seen (v0 :: p) v h' ∧ LowX 38 h' ∧ st' = ⟨liH y many len (laO q fm (nI (v0 :: p)) ++ (R ++ h')), n⟩) (fun v st' ⟨H', h1, h2, h6⟩ => ⟨H', h1, h2, by rw [h6, happ]⟩)
  rw [happ] at hs2
  clear hs
  have hgq : (liH y many len (laO q fm (nI (v0 :: p)) ++ (R ++ h))).get q = some (.cells fm false (flatG 1 (intC (zL (nI (v0 :: p)))) (p.length + 1))) := by
    have := (hq (by simp)).1
    rw [liH_get (by omega)]
    show Hp.get ((q, AObj.cells fm false (flatG 1 (intC (zL (nI (v0 :: p)))) ((nI p).length + 1))) :: (R ++ h)) q = _
    simp only [Hp.get]
    rw [if_pos trivial, nI_len]
  have c1 := clone_ok (ex := false) (off := 0) (n := p.length + 1) (N := p.length + 1) (fl := zL (nI (v0 :: p))) (id := q) (fm := fm) (ro := false) (r := zV (nI (v0 :: p))) (st := ⟨liH y many len (laO q fm (nI (v0 :: p)) ++ (R ++ h)), n⟩) hgq rfl (by omega) (by rw [List.length_cons] at hp; omega)
    (by unfold zV; rw [nI_len]; exact Eqv.isl rfl fun i k hi _ => Eqv.of (by show iV (zL (nI (v0 :: p)) (0 + i)) = iV (zL (nI (v0 :: p)) i); rw [Nat.zero_add])) (zV_below _)
  rw [show p.length + 1 = len from hp] at c1
  have hfin : ∀ v h', liR K stop seen (v0 :: p) v h' → LowX 38 h' → liQ K stop y many len n q R (v0 :: p) seen [v0 :: p] v ⟨liH y many len (laO q fm (nI (v0 :: p)) ++ (R ++ h')), n⟩ := fun v h' h1 h2 => ⟨h', n, fm, Nat.le_refl _, h2, rfl, by
    rcases h1 with ⟨h1, hk⟩ | ⟨h1, hk⟩
    · exact .inl ⟨h1, hk⟩
    · exact .inr ⟨h1, [], v0 :: p, [], rfl, by rw [List.append_nil]; exact hk⟩⟩
  have hRb : ∀ v h', liR K stop seen (v0 :: p) v h' → v = .lit (.bool true) ∨ v = .lit (.bool false) := fun v H' h => h.elim (fun h => .inl h.1) (fun h => .inr h.1)
  obtain ⟨Z, hZ⟩ : ∃ Z, zV (nI (v0 :: p)) = Z := ⟨_, rfl⟩
  rw [hZ] at c1 hs2
  obtain ⟨RR, hRR⟩ : ∃ r, liR K stop seen (v0 :: p) = r := ⟨_, rfl⟩
  rw [hRR] at hs2 hfin hRb
  obtain ⟨QQ, hQQ⟩ : ∃ r, liQ K stop y many len n q R (v0 :: p) seen [v0 :: p] = r := ⟨_, rfl⟩
  rw [hQQ] at hfin ⊢
  obtain ⟨A, hA⟩ : ∃ A : Hp → Hp, A = fun Hx => laO q fm (nI (v0 :: p)) ++ (R ++ Hx) := ⟨_, rfl⟩
  have hA2 : ∀ Hx, laO q fm (nI (v0 :: p)) ++ (R ++ Hx) = A Hx := fun Hx => by rw [hA]
  simp only [hA2] at c1 hs2 hfin ⊢
  show CallW Try.prog 128 [.sl q 0 ((nI p).length + 1) 1 false, _, _, _, _, _] _ _
  rw [nI_len, show p.length + 1 = len from hp]
  obtain ⟨AH, hAH⟩ : ∃ a, A h = a := ⟨_, rfl⟩
  rw [hAH] at c1 hs2 ⊢
  unfold liH at c1 hs2 hfin ⊢
  refine callW_of_body tok Try.func128 rfl ?_
  refine SW.seqRun tok hO (by cbv <;> rfl) (by trivial) ?_
  refine SW.seq ?_
  refine SW.seqRun tok hO (by cbv <;> rfl) (by trivial) ?_
  refine SW.condS (by cbv <;> rfl) (fun h1 => ?_) (fun h1 => ?_)
  rotate_left
  · exfalso
    subst hO; simp [std] at h1
  refine SW.seqRunD tok mixed hO (by kernel_rfl) (by cbv <;> rfl) (by trivial) ?_
  refine AnyE.callS en129 c1 (by cbv <;> rfl) (by cbv <;> rfl) ?_
  refine AnyE.run tok hO (by kernel_rfl) (by cbv <;> rfl) (by trivial) ?_
  refine AnyE.apply (c := .yld y) (args := [Z]) (by cbv <;> rfl) (by cbv <;> rfl) hs2 fun v st' hk => ?_
  obtain ⟨H', h1, h2, rfl⟩ := hk
  have hf := hfin v H' h1 h2
  rcases hRb _ _ h1 with rfl | rfl
  · refine AnyE.run tok hO (by kernel_rfl) (by cbv <;> rfl) (by trivial) ?_
    exact SW.ret ⟨_, _, rfl, rfl, hf⟩
  · refine AnyE.run tok hO (by kernel_rfl) (by cbv <;> rfl) (by trivial) ?_
    exact SW.ret ⟨_, _, rfl, rfl, hf⟩
end
end Go.Fz
