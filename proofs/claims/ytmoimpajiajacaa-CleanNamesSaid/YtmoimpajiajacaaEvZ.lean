/-
  NEW NAMES at the end of a region that draws its order: its outcomes are merged. Own work of the verifier of watercress.
-/
import Derived.Test.YtmoimpajiajacaaEvO
import Derived.Test.YtmoimpajiajacaaEvR
namespace Go.Ev

section
variable {P : Program}

theorem SW.relabel {rd : Option Nat} {c : Code} {Q Q' : Exit → Fm → St → Prop} {f : Fm} {st : St} (h : SW P rd c Q f st)
    (hq : ∀ e f' st', Q e f' st' → Q' e f' st' ∨ ∃ (ord : List Nat) (ts' : List AV) (a b : Hp), ord.Nodup ∧ (∀ i ∈ ord, st.n ≤ i) ∧ (∀ d ∈ f'.dm, d < st.n) ∧ renL (rho st.n ord) f'.ts = some ts' ∧
      renOld (rho st.n ord) st.n st'.h = some a ∧ renNew (rho st.n ord) st'.h st.n ord = some b ∧ Q' e ⟨ts', f'.dm⟩ ⟨b ++ a, st.n + ord.length⟩) : SW P rd c Q' f st := by
  intro φ w a n h1 h2 h3
  refine wpIn_mono (h φ w a n h1 h2 h3) fun e a' w' hl => ?_
  obtain ⟨f', st', φ', hk, hex, hrel, hact, hfr⟩ := hl
  rcases hq e f' st' hk with hk | ⟨ord, ts', ha, hb, k1, k2, k3, k4, k5, k6, k7⟩
  · exact ⟨f', st', φ', hk, hex, hrel, hact, hfr⟩
  · obtain ⟨m1, m2⟩ := renSt_ok hrel k1 k2 k5 k6
    refine ⟨_, _, phi st.n ord φ', k7, ⟨?_, fun id hid => ?_⟩, m1, ⟨renL_ok (rho_ok st.n ord φ') k4 hact.ts, ?_, fun id hid => ?_⟩, ⟨hfr.os, hfr.tape, hfr.output, hfr.size, hfr.block, fun k hk => hfr.own k (m2 k hk)⟩⟩
    · rw [h2.n]; unfold phi; simp only; omega
    · rw [phi_old (by rw [← h2.n]; exact hid)]; exact hex.f id hid
    · rw [hact.dm]
      exact List.map_congr_left fun id hid => by rw [phi_old (k3 id hid)]
    · have := k3 id hid; unfold phi; simp only; omega

def canonF (n0 : Nat) (x : TF × St) : TF × St :=
  match Nat.beq x.2.n n0 with
  | true => x
  | false =>
    let ts := x.1.abs.ts
    let ord := reach x.2.h n0 400 (idsL ts ++ (x.2.h.filter fun y => Nat.blt y.1 n0 && !(objLt n0 y.2)).flatMap fun y => idsO y.2) []
    match (decide ord.Nodup && ord.all (Nat.ble n0)) && (x.1.dm.all fun d => Nat.blt d n0) with
    | false => x
    | true => match renL (rho n0 ord) ts, renOld (rho n0 ord) n0 x.2.h, renNew (rho n0 ord) x.2.h n0 ord with
      | some ts', some a, some b => ({ TF.of ts' 0 with dm := x.1.dm }, ⟨b ++ a, n0 + ord.length⟩)
      | _, _, _ => x

theorem canonF_ok {n0 : Nat} {x : TF × St} (hx : x.1.ok) : (canonF n0 x).1.ok ∧ (canonF n0 x = x ∨ ∃ (ord : List Nat) (ts' : List AV) (a b : Hp), ord.Nodup ∧ (∀ i ∈ ord, n0 ≤ i) ∧ (∀ d ∈ x.1.abs.dm, d < n0) ∧ renL (rho n0 ord) x.1.abs.ts = some ts' ∧
      renOld (rho n0 ord) n0 x.2.h = some a ∧ renNew (rho n0 ord) x.2.h n0 ord = some b ∧ (canonF n0 x).1.abs = ⟨ts', x.1.abs.dm⟩ ∧ (canonF n0 x).2 = ⟨b ++ a, n0 + ord.length⟩) := by
  unfold canonF
  split
  · exact ⟨hx, .inl rfl⟩
  · simp only
    generalize reach x.2.h n0 400 _ [] = ord
    split
    · exact ⟨hx, .inl rfl⟩
    · rename_i hc
      simp only [Bool.and_eq_true, decide_eq_true_eq, List.all_eq_true] at hc
      split
      · rename_i ts' a b h1 h2 h3
        have hlen : ts'.length = x.1.len := by rw [renL_len h1]; simp [TF.abs]
        have hbig : max ts'.length 0 ≤ bigT := by rw [hlen]; unfold TF.ok at hx; omega
        refine ⟨hbig, .inr ⟨ord, ts', a, b, hc.1.1, fun i hi => Nat.le_of_ble_eq_true (hc.1.2 i hi), fun d hd => Nat.le_of_ble_eq_true (hc.2 d hd), h1, h2, h3, ?_, rfl⟩⟩
        have := TF.abs_of hbig
        show (⟨(TF.of ts' 0).abs.ts, x.1.dm⟩ : Fm) = _
        rw [this]
        simp [TF.abs]
      · exact ⟨hx, .inl rfl⟩

def dedupF : List (TF × St) → List (TF × St)
  | [] => []
  | x :: r => let r' := dedupF r; if r'.any fun y => avsEq x.1.abs.ts y.1.abs.ts && (x.1.dm == y.1.dm) && stEq x.2 y.2 then r' else x :: r'

theorem mem_dedupF : ∀ {l : List (TF × St)} {x : TF × St}, x ∈ l → ∃ y ∈ dedupF l, y.1.abs = x.1.abs ∧ y.2 = x.2
  | z :: r, x, h => by
    simp only [dedupF]
    split
    · rename_i hany
      rcases List.mem_cons.1 h with rfl | h
      · rw [List.any_eq_true] at hany
        obtain ⟨y, hy, he⟩ := hany
        simp only [Bool.and_eq_true, beq_iff_eq] at he
        refine ⟨y, hy, ?_, (stEq_ok he.2).symm⟩
        have h1 := avsEq_ok he.1.1
        have h2 : y.1.abs.dm = x.1.abs.dm := he.1.2.symm
        generalize x.1.abs = A at h1 h2
        generalize y.1.abs = B at h1 h2
        cases A; cases B
        simp only at h1 h2
        rw [h1, h2]
      · exact mem_dedupF h
    · rcases List.mem_cons.1 h with rfl | h
      · exact ⟨x, List.mem_cons_self, rfl, rfl⟩
      · obtain ⟨y, h1, h2⟩ := mem_dedupF h
        exact ⟨y, List.mem_cons_of_mem _ h1, h2⟩
  | [], _, h => by cases h

theorem dedupF_sub : ∀ {l : List (TF × St)} {x : TF × St}, x ∈ dedupF l → x ∈ l
  | z :: r, x, h => by
    simp only [dedupF] at h
    split at h
    · exact List.mem_cons_of_mem _ (dedupF_sub h)
    · rcases List.mem_cons.1 h with rfl | h
      · exact List.mem_cons_self
      · exact List.mem_cons_of_mem _ (dedupF_sub h)

/-- The outcomes of a drawn region, merged where there are several. -/
def mergeF (n0 : Nat) (l : List (TF × St)) : List (TF × St) := match l with
  | [] => []
  | [x] => [x]
  | l => dedupF (l.map (canonF n0))

theorem SW.merge {rd : Option Nat} {c : Code} {K : Exit → Fm → St → Prop} {f : Fm} {st : St} {l : List (TF × St)} (h : SW P rd c (fun e f' st' => e = .normal ∧ ∃ x ∈ l, x.1.ok ∧ f' = x.1.abs ∧ st' = x.2) f st)
    (hk : ∀ x ∈ mergeF st.n l, x.1.ok → K .normal x.1.abs x.2) : SW P rd c K f st := by
  by_cases hl : mergeF st.n l = dedupF (l.map (canonF st.n))
  · rw [hl] at hk
    refine h.relabel fun e f' st' ⟨he, x, hx, hok, hf, hs⟩ => ?_
    subst he; subst hf; subst hs
    obtain ⟨h1, h2⟩ := canonF_ok (n0 := st.n) hok
    obtain ⟨y, hy, hy1, hy2⟩ := mem_dedupF (List.mem_map_of_mem (f := canonF st.n) hx)
    have hyok : y.1.ok := by
      obtain ⟨z, hz, hzy⟩ := List.mem_map.1 (dedupF_sub hy)
      have hlen : y.1.abs.ts.length = (canonF st.n x).1.abs.ts.length := by rw [hy1]
      simp only [TF.abs, List.length_map, List.length_range] at hlen
      unfold TF.ok at *
      rw [hlen]; exact h1
    have hkk := hk y hy hyok
    rw [hy1, hy2] at hkk
    rcases h2 with h2 | ⟨ord, ts', a, b, k1, k2, k3, k4, k5, k6, k7, k8⟩
    · rw [h2] at hkk; exact .inl hkk
    · rw [k7, k8] at hkk
      exact .inr ⟨ord, ts', a, b, k1, k2, k3, k4, k5, k6, hkk⟩
  · have hsame : mergeF st.n l = l := by
      unfold mergeF at hl ⊢
      split
      · rfl
      · rfl
      · exact absurd (by split <;> first | rfl | simp_all) hl
    rw [hsame] at hk
    refine h.mono fun e f' st' ⟨he, x, hx, hok, hf, hs⟩ => ?_
    subst he; subst hf; subst hs
    exact hk x hx hok

end
end Go.Ev
