/- Own work of the verifier of watercress: Lb8. -/
import Derived.Test.YtcjekdfncnmbfaaNa7
import Derived.Test.YtcjekdfncnmbfaaNa6
import Derived.Test.YtcjekdfncnmbfaaNa5
set_option linter.unusedVariables false
set_option linter.unusedSimpArgs false
set_option linter.unusedVariables false
set_option linter.unusedSimpArgs false
namespace Go.Fz
open Go.Proofs
set_option maxRecDepth 100000
section
variable {P : Program} {T : Ti}
theorem OpsW.pre {rd : Option Nat} {ops : Array Oper} {l : List Nat} {K : Fm → St → Prop} {f f2 : Fm} {st st2 : St} (hw : Weak st.n f st f2 st2) (h : OpsW P rd ops l K f2 st2) : OpsW P rd ops l K f st := by
  intro φ w a n Q h1 h2 h3 hq
  obtain ⟨k1, k2, k3⟩ := hw.ok h2 h3
  have hn : st2.n = st.n := Nat.le_antisymm hw.hi hw.lo
  have hsame : cutN φ st2.n = φ := by cases φ; simp only [cutN, hn, ← h2.n]
  rw [hsame] at k1 k2 k3
  exact h φ w a n Q h1 k1 k2 fun a' w' hl => hq a' w' (hl.trans (Ext.refl _) k3)
theorem OpsW.sub {rd : Option Nat} {ops : Array Oper} {l : List Nat} {K : Fm → St → Prop} {f : Fm} {h1 h2 : Hp} {n : Nat} (hd : f.dm = []) (hs : ∀ id o, h2.get id = some o → h1.get id = some o ∧ id < n) (h : OpsW P rd ops l K f ⟨h2, n⟩) : OpsW P rd ops l K f ⟨h1, n⟩ :=
  OpsW.pre (f2 := f) (st2 := ⟨h2, n⟩) ⟨rfl, rfl, fun id hid => (by rw [hd] at hid; cases hid), fun i => .inr ⟨rfl, .inl rfl⟩, Nat.le_refl _, Nat.le_refl _, fun id o ho => ⟨(hs id o ho).1, (hs id o ho).2, .inl rfl⟩⟩ h
def ldAt (ops : Array Oper) (i : Nat) (f : Fm) : Option (TypeId × AV) := match ops[i]? with
  | none => none
  | some o => match wantA ops f.ts o with
    | some true => match o.op with
      | .load t p => some (t, Operand.av f.ts p)
      | _ => none
    | _ => none
theorem OpsW.ldI (hT : TOk P T) {rd : Option Nat} {ops : Array Oper} {K : Fm → St → Prop} {f : Fm} {st : St} {i : Nat} {l : List Nat} {t : TypeId} {p r : AV} (hx : ldAt ops i f = some (t, p)) (hr : loadA T st.h t p = some r)
    (h : OpsW P rd ops l K (putAt ops i f r) st) : OpsW P rd ops (i :: l) K f st := by
  unfold ldAt at hx
  split at hx
  · cases hx
  · rename_i o ho
    split at hx
    · rename_i hw
      split at hx
      · rename_i t' p' hop
        simp only [Option.some.injEq, Prod.mk.injEq] at hx
        obtain ⟨rfl, rfl⟩ := hx
        have hput : ∀ v, putAt ops i f v = f.put o.dst v := fun v => by simp [putAt, ho]
        rw [hput] at h
        refine OpsW.light hT ho hw ?_ h
        simp only [evG, evL, hop, hr]
      · cases hx
    · cases hx
theorem OpsW.cutU (hT : TOk P T) {rd : Option Nat} {ops : Array Oper} {K : Fm → St → Prop} {f : Fm} {st : St} {i : Nat} {l : List Nat} {t id off len sz u : Nat} {ex : Bool} {b : Int}
    (hx : sliAt ops i f = some (t, .sl id off len sz ex, none, some (.lit (.int .i64 b)))) (hu : b = Int.ofNat u) (hb : sliceB T t sz = true) (hle : u ≤ len)
    (h : OpsW P rd ops l K (putAt ops i f (.sl id off u sz (ex && u == len))) st) : OpsW P rd ops (i :: l) K f st := by
  obtain ⟨ti, tj, e, h1, h2, h3, h4, h5, h6, h7, h8⟩ := sliceB_ok hb
  subst hu
  unfold sliAt at hx
  split at hx
  · cases hx
  · rename_i o ho
    split at hx
    · rename_i hw
      split at hx
      · rename_i t' x lo' hi' hop
        simp only [Option.some.injEq, Prod.mk.injEq] at hx
        obtain ⟨rfl, k2, k3, k4⟩ := hx
        have hput : ∀ v, putAt ops i f v = f.put o.dst v := fun v => by simp [putAt, ho]
        rw [hput] at h
        have h0 : natOr 0 (none : Option AV) = some 0 := rfl
        refine OpsW.light hT ho hw ?_ h
        simp only [evG, hop, sliceA, k2, h1, h2, h3, h4, k3, k4, h0, natOr_lo, if_true, Option.map_none]
        rw [if_pos ⟨Nat.zero_le _, hle, .inl trivial⟩]
        simp
      · cases hx
    · cases hx
theorem OpsW.mkCap (hT : TOk P T) {rd : Option Nat} {ops : Array Oper} {K : Fm → St → Prop} {f : Fm} {st : St} {i : Nat} {l : List Nat} {t N : Nat} {b : Int} (hx : mkAt ops i f = some (t, .lit (.int .i64 0), .lit (.int .i64 b))) (hbN : b = Int.ofNat N) (hb : intsB T t = true) (hN : N ≤ 65536)
    (h : OpsW P rd ops l K (putAt ops i f (.sl st.n 0 0 1 (Nat.beq N 0))) (st.push (.cells none false (flatG 1 (intC fun _ => 0) N)))) : OpsW P rd ops (i :: l) K f st := by
  subst hbN
  unfold mkAt at hx
  split at hx
  · cases hx
  · rename_i o ho
    split at hx
    · rename_i hw
      split at hx
      · rename_i t' a b hop
        simp only [Option.some.injEq, Prod.mk.injEq] at hx
        obtain ⟨rfl, e2, e3⟩ := hx
        have hput : ∀ v, putAt ops i f v = f.put o.dst v := fun v => by simp [putAt, ho]
        rw [hput] at h
        unfold intsB at hb
        split at hb
        · rename_i ti hti
          split at hb
          · rename_i e he
            split at hb
            · rename_i j hj
              simp only [Bool.and_eq_true] at hb
              obtain ⟨⟨b1, b2⟩, b3⟩ := hb
              have hz : j.zero = [.int .i64 0] := by
                split at b3
                · assumption
                · cases b3
              have hs := Nat.eq_of_beq_eq_true b1
              refine OpsW.fresh hT ho hw ?_ h
              simp only [evF, hop, e2, e3, hti, he, hj]
              have h0 : (0 : Int) ≤ Int.ofNat N := Int.natCast_nonneg N
              rw [if_pos ⟨Int.le_refl _, h0, Int.ofNat_le.2 hN, Nat.le_of_ble_eq_true b2, by omega, by rw [hz, hs]; rfl⟩, hs]
              have hbe : ((0 : Int) == Int.ofNat N) = Nat.beq N 0 := by
                cases N with
                | zero => rfl
                | succ k => rfl
              show some (AV.sl st.n 0 0 1 ((0 : Int) == Int.ofNat N), zerosA j (N * 1)) = _
              rw [zeros_flat hz, hbe]
            · cases hb
          · cases hb
        · cases hb
      · cases hx
    · cases hx
end
theorem load_int {h : Hp} {id : Nat} {fm : Option Nat} {ro : Bool} {v : Int} (hg : h.get id = some (.cells fm ro [iV v])) : loadA T h 3 (.ptr id 0) = some (iV v) := by
  simp only [loadA, ptrOf, cellsAt, hg]
  rfl
def risE (many : Nat) : Nat → List Nat → Nat → List (List Nat)
  | 0, p, _ => [p]
  | m + 1, p, s => (List.range (many - m - s)).flatMap fun c => risE many m (p ++ [s + c]) (s + c + 1)
def risL (many : Nat) : List (List Nat) := (List.range (many + 1)).flatMap fun m => risE many m [] 0
def lsV (p : List Nat) : AV := intsV p.length false fun i => ((p.getD i 0 : Nat) : Int)
theorem lsV_below (p : List Nat) : Below 0 (lsV p) := intsV_below _ _ _
def extV (mc : Nat) : AV := .fn (.func 101) [] [.ptr 49 0, .ptr 51 0, .ptr mc 0, .ptr 52 0]
def rsH (mc y : Nat) (lv : AV) (q : Nat) (fm : Option Nat) (G : List AV) (h : Hp) : Hp := (52, .cells none false [extV mc]) :: (51, .cells none false [lv]) :: (49, .cells none false [.yld y]) :: (q, .cells fm false G) :: h
def rsS (mc y : Nat) (ex : Bool) (p : List Nat) (h : Hp) (n : Nat) (st : St) : Prop := ∃ q fm fl N, 50 ≤ q ∧ q ≠ 51 ∧ q ≠ 52 ∧ q < n ∧ p.length ≤ N ∧ (∀ i, i < p.length → fl i = ((p.getD i 0 : Nat) : Int)) ∧ st = ⟨rsH mc y (.sl q 0 p.length 1 ex) q fm (flatG 1 (intC fl) N) h, n⟩
def rsQ (K : List (List Nat) → Hp → Nat → Prop) (stop : List (List Nat) → List Nat → Hp → Nat → Prop) (mc y : Nat) (ex : Bool) (seen : List (List Nat)) (p : List Nat) (E : List (List Nat)) (v : AV) (st' : St) : Prop :=
  (v = .lit (.bool true) ∧ ∃ h n, rsS mc y ex p h n st' ∧ K (seen ++ E) h n) ∨ (v = .lit (.bool false) ∧ ∃ pre l post h n, E = pre ++ l :: post ∧ rsS mc y ex p h n st' ∧ stop (seen ++ pre) l h n)
def rsI (mc many : Nat) (h : Hp) (n : Nat) : Prop := 53 ≤ n ∧ (∀ x ∈ h, x.1 < 49 ∧ x.2.fam = none) ∧ ∃ fm ro, h.get mc = some (.cells fm ro [iV (many : Int)])
theorem rs_get {mc y : Nat} {lv : AV} {q : Nat} {fm : Option Nat} {G : List AV} {h : Hp} (h1 : 50 ≤ q) (h2 : q ≠ 51) (h3 : q ≠ 52) : (rsH mc y lv q fm G h).get q = some (.cells fm false G) := by
  unfold rsH
  simp only [Hp.get]
  rw [if_neg (by omega), if_neg (by omega), if_neg (by omega), if_pos trivial]
theorem rs_mc {mc y : Nat} {lv : AV} {q : Nat} {fm : Option Nat} {G : List AV} {h : Hp} (h1 : 50 ≤ q) (h2 : mc < 49) : (rsH mc y lv q fm G h).get mc = h.get mc := by
  unfold rsH
  simp only [Hp.get]
  rw [if_neg (by omega), if_neg (by omega), if_neg (by omega), if_neg (by omega)]
theorem take_snoc (fl : Nat → Int) (N L : Nat) (h : L ≤ N) (v : Int) : (flatG 1 (intC fl) N).take L ++ [iV v] = flatG 1 (intC (setI fl L v)) (L + 1) := by
  have h1 := flatG_part fl N 0 L (by omega)
  rw [List.drop_zero] at h1
  rw [h1]
  have h2 : flatG 1 (intC (setI fl L v)) L = flatG 1 (intC fun i => fl (0 + i)) L := flatG_congr fun i k hi => by
    show iV (setI fl L v i) = iV (fl (0 + i))
    rw [setI_ne (by omega), Nat.zero_add]
  show _ = flatG 1 (intC (setI fl L v)) L ++ [iV (setI fl L v L)]
  rw [h2, setI_self]
theorem app_rs {mc y t L q n : Nat} {lv : AV} {fm : Option Nat} {fl : Nat → Int} {N : Nat} {h : Hp} {v : Int} {ex : Bool} (hb : sliceB T t 1 = true) (h1 : 50 ≤ q) (h2 : q ≠ 51) (h3 : q ≠ 52) (hq : q < n) (hL : L ≤ N) (hL2 : L < 1000) (hh : ∀ x ∈ h, x.1 < 49 ∧ x.2.fam = none) (hn : 53 ≤ n) :
    ∃ h2, appendA T ⟨(n, .cells none false [iV v]) :: rsH mc y lv q fm (flatG 1 (intC fl) N) h, n + 1⟩ t t (.sl q 0 L 1 false) (.sl n 0 1 1 ex) = some (.sl (n + 1) 0 (L + 1) 1 false, ⟨h2, n + 1 + 1⟩) ∧
      ∀ id o, (rsH mc y lv (n + 1) (some (fm.getD q)) (flatG 1 (intC (setI fl L v)) (L + 1)) h).get id = some o → h2.get id = some o ∧ id < n + 1 + 1 := by
  obtain ⟨i, j, e, ht, hd, he, hz, h5, hb, hb0, hzl⟩ := sliceB_ok hb
  have hgq : Hp.get ((n, AObj.cells none false [iV v]) :: rsH mc y lv q fm (flatG 1 (intC fl) N) h) q = some (.cells fm false (flatG 1 (intC fl) N)) := by
    simp only [Hp.get]
    rw [if_neg (by omega)]
    exact rs_get h1 h2 h3
  have hgn : Hp.get ((n, AObj.cells none false [iV v]) :: rsH mc y lv q fm (flatG 1 (intC fl) N) h) n = some (.cells none false [iV v]) := by
    simp only [Hp.get]
    rw [if_pos trivial]
  have hlen : (flatG 1 (intC fl) N).length = N := by rw [flatG_length, Nat.mul_one]
  refine ⟨(n + 1, .cells (some (fm.getD q)) false (flatG 1 (intC (setI fl L v)) (L + 1))) :: truncH (fm.getD q) (L * 1) q ((n, AObj.cells none false [iV v]) :: rsH mc y lv q fm (flatG 1 (intC fl) N) h), ?_, fun id o ho => ?_⟩
  · unfold appendA
    simp only [ht, hd, he, slCells, cellsAt, hgq, hgn, slLen, hz]
    rw [if_pos (show True ∧ 0 + L * 1 ≤ (flatG 1 (intC fl) N).length from ⟨trivial, by rw [hlen]; omega⟩), if_pos ⟨trivial, by simp⟩]
    simp only [Nat.mul_one, List.drop_zero]
    rw [show List.take 1 [iV v] = [iV v] from rfl, take_snoc fl N L hL v, if_neg (by rw [show [iV v].all AV.one = true from rfl]; simp; omega), if_neg (by omega)]
    rfl
  · have hx := Hp.mem_of_get ho
    unfold rsH at ho hx
    have key : ∀ j x, (j = 52 ∨ j = 51 ∨ j = 49 ∨ j < 49) → x.fam = none → trunc1 (fm.getD q) (L * 1) (j == q) x = x := fun j x hj hx => by
      have hne : (j == q) = false := beq_eq_false_iff_ne.2 (by omega)
      rw [hne]
      cases x with
      | cells f' ro cs =>
        obtain rfl : f' = none := hx
        simp [trunc1]
      | loop r => rfl
      | dfr => rfl
      | map es clock => rfl
      | iter mid since seen last => rfl
    show Hp.get ((n + 1, _) :: truncH (fm.getD q) (L * 1) q ((n, AObj.cells none false [iV v]) :: rsH mc y lv q fm (flatG 1 (intC fl) N) h)) id = some o ∧ _
    by_cases e1 : id = n + 1
    · subst e1
      simp only [Hp.get] at ho ⊢
      rw [if_neg (by omega), if_neg (by omega), if_neg (by omega), if_pos trivial] at ho
      rw [if_pos trivial]
      exact ⟨ho, by omega⟩
    · have hid : id = 52 ∨ id = 51 ∨ id = 49 ∨ (id < 49 ∧ ∀ o', Hp.get h id = some o' → o'.fam = none) := by
        rcases List.mem_cons.1 hx with hx | hx
        · cases hx; exact .inl rfl
        rcases List.mem_cons.1 hx with hx | hx
        · cases hx; exact .inr (.inl rfl)
        rcases List.mem_cons.1 hx with hx | hx
        · cases hx; exact .inr (.inr (.inl rfl))
        rcases List.mem_cons.1 hx with hx | hx
        · cases hx; exact absurd rfl e1
        · exact .inr (.inr (.inr ⟨(hh _ hx).1, fun o' ho' => (hh _ (Hp.mem_of_get ho')).2⟩))
      have hlt : id < 53 := by omega
      refine ⟨?_, by omega⟩
      simp only [Hp.get]
      rw [if_neg (by omega)]
      show Hp.get ((n, _) :: truncH (fm.getD q) (L * 1) q (rsH mc y lv q fm (flatG 1 (intC fl) N) h)) id = some o
      simp only [Hp.get]
      rw [if_neg (by omega), truncH_get]
      have ho2 : Hp.get (rsH mc y lv q fm (flatG 1 (intC fl) N) h) id = some o := by
        unfold rsH
        simp only [Hp.get] at ho ⊢
        by_cases k1 : 52 = id
        · rw [if_pos k1] at ho ⊢; exact ho
        · rw [if_neg k1] at ho ⊢
          by_cases k2 : 51 = id
          · rw [if_pos k2] at ho ⊢; exact ho
          · rw [if_neg k2] at ho ⊢
            by_cases k3 : 49 = id
            · rw [if_pos k3] at ho ⊢; exact ho
            · rw [if_neg k3, if_neg (by omega)] at ho ⊢; exact ho
      rw [ho2]
      show some (trunc1 (fm.getD q) (L * 1) (id == q) o) = some o
      rw [key id o (by omega) ?_]
      rcases hid with rfl | rfl | rfl | ⟨_, hf⟩
      · simp only [Hp.get] at ho; rw [if_pos trivial] at ho; cases ho; rfl
      · simp only [Hp.get] at ho; rw [if_neg (by omega), if_pos trivial] at ho; cases ho; rfl
      · simp only [Hp.get] at ho; rw [if_neg (by omega), if_neg (by omega), if_pos trivial] at ho; cases ho; rfl
      · refine hf o ?_
        simp only [Hp.get] at ho
        rw [if_neg (by omega), if_neg (by omega), if_neg (by omega), if_neg (by omega)] at ho
        exact ho
end Go.Fz
namespace Go.Fz
open Go.Proofs
set_option maxRecDepth 100000
section
variable (K : List (List Nat) → Hp → Nat → Prop) (stop : List (List Nat) → List Nat → Hp → Nat → Prop) (ok : List Nat → Prop) (mc y many : Nat) (ex : Bool)
def rsStep : Prop := ∀ seen l h n R, K seen h n → ok l → (∀ x ∈ R, 49 ≤ x.1 ∧ x.1 < n ∧ x.2.own = true) → YieldW Try.prog y [lsV l] ⟨R ++ h, n⟩ (fun v st' => (v = .lit (.bool true) ∧ ∃ h' n', n ≤ n' ∧ st' = ⟨R ++ h', n'⟩ ∧ K (seen ++ [l]) h' n') ∨ (v = .lit (.bool false) ∧ ∃ h' n', n ≤ n' ∧ st' = ⟨R ++ h', n'⟩ ∧ stop seen l h' n'))
variable {K stop ok mc y many ex}
set_option maxHeartbeats 8000000 in
theorem ext_leaf (hmc : mc < 49) (hmany : many < 100) (hid : ∀ s h n, K s h n → rsI mc many h n) (step : rsStep K stop ok y) (p : List Nat) (s : Nat) (seen : List (List Nat)) (h : Hp) (n : Nat) (st : St) (hp : p.length ≤ many) (hok : ok p) (hst : rsS mc y ex p h n st) (hK : K seen h n) :
    CallW Try.prog 101 [iV ((0 : Nat) : Int), iV (s : Int), .ptr 49 0, .ptr 51 0, .ptr mc 0, .ptr 52 0] st (rsQ K stop mc y ex seen p [p]) := by
  obtain ⟨O, hO⟩ : ∃ O : Ar, O = std := ⟨_, rfl⟩
  obtain ⟨q, fm, fl, N, q1, q2, q3, qn, hpN, hfl, rfl⟩ := hst
  obtain ⟨hn, hh, fm0, ro0, hmcg⟩ := hid _ _ _ hK
  obtain ⟨G, hG⟩ : ∃ G, flatG 1 (intC fl) N = G := ⟨_, rfl⟩
  have hs := step seen p h n [(52, .cells none false [extV mc]), (51, .cells none false [.sl q 0 p.length 1 ex]), (49, .cells none false [.yld y]), (q, .cells fm false G)] hK hok (fun x hx => by
    simp only [List.mem_cons, List.not_mem_nil, or_false] at hx
    rcases hx with rfl | rfl | rfl | rfl
    · exact ⟨by show 49 ≤ 52; omega, by show 52 < n; omega, rfl⟩
    · exact ⟨by show 49 ≤ 51; omega, by show 51 < n; omega, rfl⟩
    · exact ⟨by show 49 ≤ 49; omega, by show 49 < n; omega, rfl⟩
    · exact ⟨by show 49 ≤ q; omega, qn, rfl⟩)
  have c1 := fun (b : Bool) => clone_ok (ex := b) (off := 0) (n := p.length) (N := N) (fl := fl) (id := q) (fm := fm) (ro := false) (G := G) (r := lsV p) (st := ⟨rsH mc y (.sl q 0 p.length 1 ex) q fm G h, n⟩) (rs_get q1 q2 q3) hG (by omega) (by omega)
    (Eqv.isl rfl fun i k hi _ => Eqv.of (by show iV (fl (0 + i)) = iV ((p.getD i 0 : Nat) : Int); rw [Nat.zero_add, hfl i hi])) (lsV_below p)
  rw [hG]
  obtain ⟨lv, hlv⟩ : ∃ lv, lsV p = lv := ⟨_, rfl⟩
  rw [hlv] at hs c1
  have hfin : ∀ h' n', n ≤ n' → rsS mc y ex p h' n' ⟨rsH mc y (.sl q 0 p.length 1 ex) q fm G h', n'⟩ := fun h' n' hle => ⟨q, fm, fl, N, q1, q2, q3, by omega, hpN, hfl, by rw [hG]⟩
  obtain ⟨L, hL⟩ : ∃ L, p.length = L := ⟨_, rfl⟩
  rw [hL] at hs c1 hfin ⊢
  refine callW_of_body tok Try.func101 rfl ?_
  refine SW.seqRun tok hO (by cbv <;> rfl) (by trivial) ?_
  refine SW.seq ?_
  refine SW.seqRun tok hO (by cbv <;> rfl) (by trivial) ?_
  refine SW.condS (by cbv <;> rfl) (fun h1 => ?_) (fun h1 => ?_)
  rotate_left
  · exfalso
    subst hO; simp [std] at h1
  refine SW.seqRunD tok mixed hO (by kernel_rfl) (by cbv <;> rfl) (by trivial) ?_
  refine AnyE.callS en61 (c1 ex) (by cbv <;> rfl) (by cbv <;> rfl) ?_
  refine AnyE.run tok hO (by kernel_rfl) (by cbv <;> rfl) (by trivial) ?_
  refine AnyE.apply (c := .yld y) (args := [lv]) (by cbv <;> rfl) (by cbv <;> rfl) hs fun v st' hk => ?_
  rcases hk with ⟨rfl, h2, n2, hle, rfl, hk⟩ | ⟨rfl, h2, n2, hle, rfl, hk⟩
  · refine AnyE.run tok hO (by kernel_rfl) (by cbv <;> rfl) (by trivial) ?_
    exact SW.ret ⟨_, _, rfl, rfl, .inl ⟨rfl, h2, n2, hfin h2 n2 hle, hk⟩⟩
  · refine AnyE.run tok hO (by kernel_rfl) (by cbv <;> rfl) (by trivial) ?_
    exact SW.ret ⟨_, _, rfl, rfl, .inr ⟨rfl, [], p, [], h2, n2, rfl, hfin h2 n2 hle, by rw [List.append_nil]; exact hk⟩⟩
end
end Go.Fz
namespace Go.Fz
open Go.Proofs
set_option maxRecDepth 100000
theorem range_split (a b : Nat) (h : a ≤ b) : ∃ r, List.range b = List.range a ++ r := by
  have h1 := List.take_append_drop a (List.range b)
  rw [List.take_range, Nat.min_eq_left h] at h1
  exact ⟨_, h1.symm⟩
section
variable {K : List (List Nat) → Hp → Nat → Prop} {stop : List (List Nat) → List Nat → Hp → Nat → Prop} {ok : List Nat → Prop} {mc y many : Nat}
set_option maxHeartbeats 16000000 in
theorem ext_step (hmc : mc < 49) (hmany : many < 100) (hid : ∀ s h n, K s h n → rsI mc many h n) (hmono : ∀ s h n n', K s h n → n ≤ n' → K s h n') (m : Nat)
    (ih : ∀ (p : List Nat) (s : Nat) (seen : List (List Nat)) (h : Hp) (n : Nat) (st : St), m + p.length ≤ many → s ≤ many → (∀ l ∈ risE many m p s, ok l) → rsS mc y false p h n st → K seen h n →
      CallW Try.prog 101 [iV (m : Int), iV (s : Int), .ptr 49 0, .ptr 51 0, .ptr mc 0, .ptr 52 0] st (rsQ K stop mc y false seen p (risE many m p s)))
    (p : List Nat) (s : Nat) (seen : List (List Nat)) (h : Hp) (n : Nat) (st : St) (hp : m + 1 + p.length ≤ many) (hs : s ≤ many) (hok : ∀ l ∈ risE many (m + 1) p s, ok l) (hst : rsS mc y false p h n st) (hK : K seen h n) :
    CallW Try.prog 101 [iV ((m + 1 : Nat) : Int), iV (s : Int), .ptr 49 0, .ptr 51 0, .ptr mc 0, .ptr 52 0] st (rsQ K stop mc y false seen p (risE many (m + 1) p s)) := by
  obtain ⟨O, hO⟩ : ∃ O : Ar, O = std := ⟨_, rfl⟩
  obtain ⟨q, fm, fl, N, q1, q2, q3, qn, hpN, hfl, rfl⟩ := hst
  obtain ⟨F, hF⟩ : ∃ F : Nat → List (List Nat), F = fun c => risE many m (p ++ [s + c]) (s + c + 1) := ⟨_, rfl⟩
  have hE : risE many (m + 1) p s = (List.range (many - m - s)).flatMap F := by rw [hF]; rfl
  rw [hE] at hok ⊢
  have hsn : ∀ c, (List.range (c + 1)).flatMap F = (List.range c).flatMap F ++ F c := fun c => by rw [List.range_succ, List.flatMap_append]; simp
  obtain ⟨ma, hma⟩ : ∃ ma : Int, ((m + 1 : Nat) : Int) = ma := ⟨_, rfl⟩
  obtain ⟨sa, hsa⟩ : ∃ sa : Int, (s : Int) = sa := ⟨_, rfl⟩
  rw [hma, hsa]
  refine callW_of_body tok Try.func101 rfl ?_
  have hst0 : rsS mc y false p h n ⟨rsH mc y (.sl q 0 p.length 1 false) q fm (flatG 1 (intC fl) N) h, n⟩ := ⟨q, fm, fl, N, q1, q2, q3, qn, hpN, hfl, rfl⟩
  obtain ⟨L, hL⟩ : ∃ L, p.length = L := ⟨_, rfl⟩
  obtain ⟨G, hG⟩ : ∃ G, flatG 1 (intC fl) N = G := ⟨_, rfl⟩
  rw [hL, hG] at hst0
  rw [hL, hG]
  refine SW.seqRun tok hO (by cbv <;> rfl) (by trivial) ?_
  refine SW.seq ?_
  refine SW.seqRun tok hO (by cbv <;> rfl) (by trivial) ?_
  refine SW.condS (by cbv <;> rfl) (fun h1 => ?_) (fun h1 => SW.skip ?_)
  · exfalso
    have : ma = 0 := by subst hO; simpa [std] using h1
    omega
  refine SW.seq ?_
  refine SW.seqRun tok hO (by cbv <;> rfl) (by trivial) ?_
  refine (SW.block (SW.loop (fun k f st => ∃ (g : Nat → AV) (c : Nat) (h' : Hp) (n' : Nat), f = ⟨⟨42, g⟩, []⟩ ∧ AllP (fun p => g p.1 = p.2) [(0, iV ma), (2, .ptr 49 0), (3, .ptr 51 0), (4, .ptr mc 0), (5, .ptr 52 0), (9, iV (sa + (c : Int)))] ∧ rsS mc y false p h' n' st ∧
      K (seen ++ (List.range c).flatMap F) h' n' ∧ c ≤ many - m - s ∧ k = many - m - s - c) (many - m - s - 0) ?_ ?_))
  · refine ⟨_, 0, h, n, rfl, ⟨rfl, rfl, rfl, rfl, rfl, ?_, trivial⟩, hst0, by simpa using hK, by omega, rfl⟩
    show iV sa = iV (sa + ((0 : Nat) : Int))
    rw [show sa + ((0 : Nat) : Int) = sa by omega]
  · rintro k f st ⟨g, c, h', n', rfl, ⟨g0, g2, g3, g4, g5, g9, _⟩, hst, hK', hle, rfl⟩
    obtain ⟨q, fm, fl, N, q1, q2, q3, qn, hpN, hfl, rfl⟩ := hst
    obtain ⟨hn, hh, fm0, ro0, hmcg⟩ := hid _ _ _ hK'
    simp only at g0 g2 g3 g4 g5 g9
    rw [← updT_self g0, ← updT_self g2, ← updT_self g3, ← updT_self g4, ← updT_self g5, ← updT_self g9]
    obtain ⟨v, hv⟩ : ∃ v, sa + (c : Int) = v := ⟨_, rfl⟩
    have hst1 : rsS mc y false p h' n' ⟨rsH mc y (.sl q 0 p.length 1 false) q fm (flatG 1 (intC fl) N) h', n'⟩ := ⟨q, fm, fl, N, q1, q2, q3, qn, hpN, hfl, rfl⟩
    rw [hv]
    obtain ⟨G1, hG1⟩ : ∃ G1, flatG 1 (intC fl) N = G1 := ⟨_, rfl⟩
    rw [hL] at hst1 hpN
    rw [hG1] at hst1
    rw [hL, hG1]
    refine SW.seq ?_
    refine SW.seq (SW.runN tok hO 1 (by cbv <;> rfl) (by trivial) ?_)
    refine OpsW.ldI tok (by cbv <;> rfl) (load_int (v := (many : Int)) ((rs_mc q1 hmc).trans hmcg)) ?_
    obtain ⟨mn, hmn⟩ : ∃ mn : Int, (many : Int) = mn := ⟨_, rfl⟩
    rw [hmn]
    refine OpsW.run tok hO (by cbv <;> rfl) (by trivial) ?_
    have hsub : O.bin .sub .i64 mn ma = mn - ma := by
      subst hO
      show sub64 mn ma = _
      rw [sub64_in _ _ (by omega) (by omega)]
    refine SW.condS (by cbv <;> rfl) (fun h3 => SW.skip ?_) (fun h3 => SW.exit ?_)
    rotate_left
    · have hgt : mn - ma < v := by
        have : O.bin .sub .i64 mn ma < v := by subst hO; simpa [std] using h3
        rwa [hsub] at this
      have hc : c = many - m - s := by omega
      refine SW.seqRun tok hO (by cbv <;> rfl) (by trivial) ?_
      refine SW.ret ⟨_, _, rfl, rfl, .inl ⟨rfl, h', n', hst1, ?_⟩⟩
      rw [hc] at hK'; exact hK'
    · have hvle : v ≤ mn - ma := by
        have : v ≤ O.bin .sub .i64 mn ma := by subst hO; simpa [std] using h3
        rwa [hsub] at this
      have hcl : c < many - m - s := by omega
      have hvN : v = ((s + c : Nat) : Int) := by omega
      refine SW.seq (SW.block ?_)
      refine SW.seq (SW.runN tok hO 3 (by cbv <;> rfl) (by trivial) ?_)
      obtain ⟨h2, happ, hsubh⟩ := app_rs (mc := mc) (y := y) (t := 26) (L := L) (q := q) (n := n') (lv := .sl q 0 L 1 false) (fm := fm) (fl := fl) (N := N) (h := h') (v := v) (ex := true) (by kernel_rfl) q1 q2 q3 qn (by omega) (by omega) hh hn
      rw [hG1] at happ
      refine OpsW.appA tok (by cbv <;> rfl) happ ?_
      refine OpsW.sub (by rfl) hsubh ?_
      have hflx : ∀ i, i < (p ++ [s + c]).length → setI fl L v i = (((p ++ [s + c]).getD i 0 : Nat) : Int) := fun i hi => by
        rw [List.length_append, List.length_singleton, hL] at hi
        by_cases e : i = L
        · subst e
          rw [setI_self, hvN]
          congr 1
          rw [← hL]; simp
        · rw [setI_ne e, hfl i (by omega)]
          congr 1
          rw [List.getD_eq_getElem?_getD, List.getD_eq_getElem?_getD, List.getElem?_append_left (by omega)]
      have hlen1 : (p ++ [s + c]).length = L + 1 := by rw [List.length_append, List.length_singleton, hL]
      have hst2 : rsS mc y false (p ++ [s + c]) h' (n' + 1 + 1) ⟨rsH mc y (.sl (n' + 1) 0 (L + 1) 1 false) (n' + 1) (some (fm.getD q)) (flatG 1 (intC (setI fl L v)) (L + 1)) h', n' + 1 + 1⟩ :=
        ⟨n' + 1, some (fm.getD q), setI fl L v, L + 1, by omega, by omega, by omega, by omega, by omega, hflx, by rw [hlen1]⟩
      have hrec := ih (p ++ [s + c]) (s + c + 1) (seen ++ (List.range c).flatMap F) h' (n' + 1 + 1) _ (by omega) (by omega) (fun l hl => hok l (List.mem_flatMap.2 ⟨c, List.mem_range.2 hcl, by rw [hF]; exact hl⟩)) hst2 (hmono _ _ _ _ hK' (by omega))
      obtain ⟨G2, hG2⟩ : ∃ G2, flatG 1 (intC (setI fl L v)) (L + 1) = G2 := ⟨_, rfl⟩
      rw [hG2] at hrec
      rw [hG2]
      have e1 : iV (m : Int) = AV.lit (.int .i64 (O.bin .sub .i64 ma 1)) := by
        have : O.bin .sub .i64 ma 1 = (m : Int) := by
          subst hO
          show sub64 ma 1 = _
          rw [sub64_in _ _ (by omega) (by omega)]; omega
        rw [this]; rfl
      have e2 : iV ((s + c + 1 : Nat) : Int) = AV.lit (.int .i64 (O.bin .add .i64 v 1)) := by
        have : O.bin .add .i64 v 1 = ((s + c + 1 : Nat) : Int) := by
          subst hO
          show add64 v 1 = _
          rw [add64_in _ _ (by omega) (by omega)]; omega
        rw [this]; rfl
      rw [e1, e2] at hrec
      refine OpsW.run tok hO (by cbv <;> rfl) (by trivial) ?_
      refine SW.seqRun tok hO (by cbv <;> rfl) (by trivial) ?_
      refine OpsW.apply (by cbv <;> rfl) (show ApplyW Try.prog (extV mc) _ _ _ from ⟨en101, hrec⟩) fun w st' hk => ?_
      have hFc : risE many m (p ++ [s + c]) (s + c + 1) = F c := by rw [hF]
      rw [hFc] at hk
      have hcut : O.bin .sub .i64 (Int.ofNat (L + 1)) 1 = Int.ofNat L := by
        subst hO
        show sub64 ((L + 1 : Nat) : Int) 1 = (L : Int)
        rw [sub64_in _ _ (by omega) (by omega)]; omega
      rcases hk with ⟨rfl, h3, n3, ⟨q', fm', fl', N', k1, k2, k3, k4, k5, k6, rfl⟩, hk⟩ | ⟨rfl, pre, l, post, h3, n3, hE3, ⟨q', fm', fl', N', k1, k2, k3, k4, k5, k6, rfl⟩, hk⟩
      · have hst3 : rsS mc y false p h3 n3 ⟨rsH mc y (.sl q' 0 L 1 false) q' fm' (flatG 1 (intC fl') N') h3, n3⟩ := ⟨q', fm', fl', N', k1, k2, k3, k4, by rw [hlen1] at k5; omega, fun i hi => by
          rw [k6 i (by omega), List.getD_eq_getElem?_getD, List.getD_eq_getElem?_getD, List.getElem?_append_left (by omega)], by rw [hL]⟩
        obtain ⟨G3, hG3⟩ : ∃ G3, flatG 1 (intC fl') N' = G3 := ⟨_, rfl⟩
        rw [hG3] at hst3
        rw [hG3, hlen1]
        refine OpsW.run tok hO (by cbv <;> rfl) (by trivial) ?_
        refine SW.seq (SW.runN tok hO 4 (by cbv <;> rfl) (by trivial) ?_)
        refine OpsW.cutU tok (u := L) (by cbv <;> rfl) hcut (by kernel_rfl) (by omega) ?_
        refine OpsW.run tok hO (by cbv <;> rfl) (by trivial) ?_
        refine SW.seqRun tok hO (by cbv <;> rfl) (by trivial) ?_
        refine SW.cond (t := false) (by cbv <;> rfl) (SW.skip ?_)
        refine SW.run tok hO (by cbv <;> rfl) (by trivial) ?_
        have hinc : O.bin .add .i64 v 1 = sa + ((c + 1 : Nat) : Int) := by
          subst hO
          show add64 v 1 = _
          rw [add64_in _ _ (by omega) (by omega)]; omega
        refine ⟨many - m - s - (c + 1), by omega, _, c + 1, h3, n3, rfl, ⟨rfl, rfl, rfl, rfl, rfl, congrArg (fun z => AV.lit (.int .i64 z)) hinc, trivial⟩, hst3, ?_, by omega, rfl⟩
        rw [hsn, ← List.append_assoc]; exact hk
      · have hst3 : rsS mc y false p h3 n3 ⟨rsH mc y (.sl q' 0 L 1 false) q' fm' (flatG 1 (intC fl') N') h3, n3⟩ := ⟨q', fm', fl', N', k1, k2, k3, k4, by rw [hlen1] at k5; omega, fun i hi => by
          rw [k6 i (by omega), List.getD_eq_getElem?_getD, List.getD_eq_getElem?_getD, List.getElem?_append_left (by omega)], by rw [hL]⟩
        obtain ⟨G3, hG3⟩ : ∃ G3, flatG 1 (intC fl') N' = G3 := ⟨_, rfl⟩
        rw [hG3] at hst3
        rw [hG3, hlen1]
        refine OpsW.run tok hO (by cbv <;> rfl) (by trivial) ?_
        refine SW.seq (SW.runN tok hO 4 (by cbv <;> rfl) (by trivial) ?_)
        refine OpsW.cutU tok (u := L) (by cbv <;> rfl) hcut (by kernel_rfl) (by omega) ?_
        refine OpsW.run tok hO (by cbv <;> rfl) (by trivial) ?_
        refine SW.seqRun tok hO (by cbv <;> rfl) (by trivial) ?_
        refine SW.cond (t := true) (by cbv <;> rfl) ?_
        refine SW.seqRun tok hO (by cbv <;> rfl) (by trivial) ?_
        obtain ⟨r, hr⟩ := range_split (c + 1) (many - m - s) hcl
        have hsplit : (List.range (many - m - s)).flatMap F = ((List.range c).flatMap F ++ pre) ++ l :: (post ++ r.flatMap F) := by
          rw [hr, List.flatMap_append, hsn, hE3]
          simp [List.append_assoc]
        refine SW.ret ⟨_, _, rfl, rfl, .inr ⟨rfl, (List.range c).flatMap F ++ pre, l, _, h3, n3, hsplit, hst3, ?_⟩⟩
        rw [← List.append_assoc]; exact hk
end
end Go.Fz
namespace Go.Fz
open Go.Proofs
set_option maxRecDepth 100000
theorem SW.sub {P : Program} {rd : Option Nat} {c : Code} {Q : Exit → Fm → St → Prop} {f : Fm} {h1 h2 : Hp} {n : Nat} (hd : f.dm = []) (hs : ∀ id o, h2.get id = some o → h1.get id = some o ∧ id < n) (h : SW P rd c Q f ⟨h2, n⟩) : SW P rd c Q f ⟨h1, n⟩ :=
  SW.pre (f2 := f) (st2 := ⟨h2, n⟩) ⟨rfl, rfl, fun id hid => (by rw [hd] at hid; cases hid), fun i => .inr ⟨rfl, .inl rfl⟩, Nat.le_refl _, Nat.le_refl _, fun id o ho => ⟨(hs id o ho).1, (hs id o ho).2, .inl rfl⟩⟩ h
section
variable {K : List (List Nat) → Hp → Nat → Prop} {stop : List (List Nat) → List Nat → Hp → Nat → Prop} {ok : List Nat → Prop} {mc y many : Nat}
theorem ext_ok (hmc : mc < 49) (hmany : many < 100) (hid : ∀ s h n, K s h n → rsI mc many h n) (hmono : ∀ s h n n', K s h n → n ≤ n' → K s h n') (step : rsStep K stop ok y) :
    ∀ (m : Nat) (ex : Bool) (p : List Nat) (s : Nat) (seen : List (List Nat)) (h : Hp) (n : Nat) (st : St), (0 < m → ex = false) → m + p.length ≤ many → s ≤ many → (∀ l ∈ risE many m p s, ok l) → rsS mc y ex p h n st → K seen h n →
      CallW Try.prog 101 [iV (m : Int), iV (s : Int), .ptr 49 0, .ptr 51 0, .ptr mc 0, .ptr 52 0] st (rsQ K stop mc y ex seen p (risE many m p s))
  | 0, ex, p, s, seen, h, n, st, _, hp, _, hok, hst, hK => ext_leaf hmc hmany hid step p s seen h n st (by omega) (hok p (List.mem_singleton.2 rfl)) hst hK
  | m + 1, ex, p, s, seen, h, n, st, hex, hp, hs, hok, hst, hK => by
    obtain rfl := hex (Nat.succ_pos m)
    exact ext_step hmc hmany hid hmono m (fun p s seen h n st => ext_ok hmc hmany hid hmono step m false p s seen h n st fun _ => rfl) p s seen h n st hp hs hok hst hK
theorem mem_risE_sub {many : Nat} {m : Nat} (hm : m ≤ many) {l : List Nat} (hl : l ∈ risE many m [] 0) : l ∈ risL many := List.mem_flatMap.2 ⟨m, List.mem_range.2 (by omega), hl⟩
set_option maxHeartbeats 16000000 in
theorem rising101 (hmc : mc < 49) (hmany : many < 100) (hid : ∀ s h n, K s h n → rsI mc many h n) (hidS : ∀ s l h n, stop s l h n → 53 ≤ n ∧ ∀ x ∈ h, x.1 < 49) (hmono : ∀ s h n n', K s h n → n ≤ n' → K s h n') (hok : ∀ l ∈ risL many, ok l) (step : rsStep K stop ok y)
    (h0 : Hp) (n0 : Nat) (hn0 : n0 ≤ 49) (hK : K [] h0 53) :
    CallW Try.prog 100 [.yld y, .ptr mc 0] ⟨h0, n0⟩ (fun _ st' => ∃ h n, st' = ⟨h, n⟩ ∧ (K (risL many) h n ∨ ∃ pre l post, risL many = pre ++ l :: post ∧ stop pre l h n)) := by
  obtain ⟨O, hO⟩ : ∃ O : Ar, O = std := ⟨_, rfl⟩
  obtain ⟨_, hh0, fm0, ro0, hmcg⟩ := hid _ _ _ hK
  refine CallW.pad (n := 49) (by show n0 ≤ 49; exact hn0) ?_
  refine CallW.weak (k1 := fun _ st' => ∃ R h n, (∀ id o, Hp.get R id = some o → 49 ≤ id) ∧ st' = ⟨R ++ h, n⟩ ∧ (∀ x ∈ h, x.1 < 49) ∧ 53 ≤ n ∧ (K (risL many) h n ∨ ∃ pre l post, risL many = pre ++ l :: post ∧ stop pre l h n)) ?_ (fun v st1 ⟨R, h, n, hR, hs, hl, hn, hk⟩ => .inr ⟨.any, ⟨h, n⟩, ⟨.inl rfl, by show 49 ≤ n; omega, by rw [hs]; exact Nat.le_refl _, fun id o ho => ?_⟩, h, n, rfl, hk⟩)
  rotate_left
  · have hlt : id < 49 := hl _ (Hp.mem_of_get ho)
    refine ⟨?_, by show id < n; omega, .inl (by rw [hs])⟩
    rw [hs]
    show Hp.get (R ++ h) id = some o
    rw [Hp.get_app]
    cases hg : Hp.get R id with
    | none => exact ho
    | some o' => have := hR id o' hg; omega
  have hget : ∀ {q : Nat} {fm : Option Nat} {G : List AV} {lv : AV}, 50 ≤ q → ∀ id o, Hp.get [(52, AObj.cells none false [extV mc]), (51, .cells none false [lv]), (49, .cells none false [.yld y]), (q, .cells fm false G)] id = some o → 49 ≤ id := fun hq id o ho => by
    have := Hp.mem_of_get ho
    simp only [List.mem_cons, List.not_mem_nil, or_false, Prod.mk.injEq] at this
    omega
  obtain ⟨F, hF⟩ : ∃ F : Nat → List (List Nat), F = fun m => risE many m [] 0 := ⟨_, rfl⟩
  have hsn : ∀ c, (List.range (c + 1)).flatMap F = (List.range c).flatMap F ++ F c := fun c => by rw [List.range_succ, List.flatMap_append]; simp
  have hE : risL many = (List.range (many + 1)).flatMap F := by rw [hF]; rfl
  refine callW_of_body tok Try.func100 rfl ?_
  refine SW.seqRun tok hO (by cbv <;> rfl) (by trivial) ?_
  have hmc1 : ∀ o, Hp.get ((49, o) :: h0) mc = some (.cells fm0 ro0 [iV (many : Int)]) := fun o => by
    simp only [Hp.get]
    rw [if_neg (by omega)]; exact hmcg
  refine SW.seq (SW.runN tok hO 0 (by cbv <;> rfl) (by trivial) ?_)
  refine OpsW.ldI tok (by cbv <;> rfl) (load_int (v := (many : Int)) (hmc1 _)) ?_
  obtain ⟨mn, hmn⟩ : ∃ mn : Int, (many : Int) = mn := ⟨_, rfl⟩
  rw [hmn]
  refine OpsW.runN tok hO 1 (by cbv <;> rfl) (by trivial) ?_
  have hmx : O.mx mn 0 = Int.ofNat many := by
    subst hO
    show (if (0 : Int) > mn then 0 else mn) = (many : Int)
    rw [if_neg (by omega), hmn]
  refine OpsW.mkCap tok (N := many) (by cbv <;> rfl) hmx (by kernel_rfl) (by omega) ?_
  have hst0 : rsS mc y (Nat.beq many 0) [] h0 53 ⟨rsH mc y (.sl 50 0 0 1 (Nat.beq many 0)) 50 none (flatG 1 (intC fun _ => 0) many) h0, 53⟩ :=
    ⟨50, none, fun _ => 0, many, by omega, by omega, by omega, by omega, Nat.zero_le _, fun i hi => absurd hi (Nat.not_lt_zero i), rfl⟩
  obtain ⟨G, hG⟩ : ∃ G, flatG 1 (intC fun _ => 0) many = G := ⟨_, rfl⟩
  obtain ⟨ex, hex⟩ : ∃ ex, Nat.beq many 0 = ex := ⟨_, rfl⟩
  rw [hG, hex] at hst0
  rw [hG, hex]
  refine OpsW.run tok hO (by cbv <;> rfl) (by trivial) ?_
  refine SW.seqRun tok hO (by cbv <;> rfl) (by trivial) ?_
  refine SW.seqRun tok hO (by cbv <;> rfl) (by trivial) ?_
  refine SW.seqRun tok hO (by cbv <;> rfl) (by trivial) ?_
  refine SW.sub (h2 := rsH mc y (.sl 50 0 0 1 ex) 50 none G h0) (by rfl) (fun id o ho => ?_) ?_
  · have hm := Hp.mem_of_get ho
    unfold rsH at ho hm
    simp only [List.mem_cons, Prod.mk.injEq] at hm
    rcases hm with ⟨rfl, rfl⟩ | ⟨rfl, rfl⟩ | ⟨rfl, rfl⟩ | ⟨rfl, rfl⟩ | hm
    · exact ⟨rfl, by omega⟩
    · exact ⟨rfl, by omega⟩
    · exact ⟨rfl, by omega⟩
    · exact ⟨rfl, by omega⟩
    · have hlt : id < 49 := (hh0 _ hm).1
      simp only [Hp.get] at ho ⊢
      rw [if_neg (by omega), if_neg (by omega), if_neg (by omega), if_neg (by omega)] at ho ⊢
      exact ⟨ho, by omega⟩
  refine SW.block (SW.loop (fun k f st => ∃ (g : Nat → AV) (c : Nat) (h' : Hp) (n' : Nat), f = ⟨⟨20, g⟩, []⟩ ∧ AllP (fun p => g p.1 = p.2) [(1, .ptr mc 0), (4, .ptr 52 0), (5, iV (c : Int))] ∧ rsS mc y ex [] h' n' st ∧ K ((List.range c).flatMap F) h' n' ∧ c ≤ many + 1 ∧ k = many + 1 - c) (many + 1 - 0) ?_ ?_)
  · exact ⟨_, 0, h0, 53, rfl, ⟨rfl, rfl, rfl, trivial⟩, hst0, hK, by omega, rfl⟩
  · rintro k f st ⟨g, c, h', n', rfl, ⟨g1, g4, g5, _⟩, hst, hK', hle, rfl⟩
    have hst1 := hst
    obtain ⟨q, fm, fl, N, q1, q2, q3, qn, hpN, hfl, rfl⟩ := hst
    obtain ⟨hn, hh, fm1, ro1, hmcg1⟩ := hid _ _ _ hK'
    simp only at g1 g4 g5
    rw [← updT_self g1, ← updT_self g4, ← updT_self g5]
    have hmcg2 := (rs_mc (y := y) (lv := .sl q 0 0 1 ex) (q := q) (fm := fm) (G := flatG 1 (intC fl) N) (h := h') q1 hmc).trans hmcg1
    obtain ⟨G1, hG1⟩ : ∃ G1, flatG 1 (intC fl) N = G1 := ⟨_, rfl⟩
    obtain ⟨v, hv⟩ : ∃ v, (c : Int) = v := ⟨_, rfl⟩
    have hlow : ∀ x ∈ h', x.1 < 49 := fun x hx => (hh x hx).1
    have hrec := fun hc : c ≤ many => ext_ok hmc hmany hid hmono step c ex [] 0 _ h' n' _ (fun hp => by rw [← hex]; cases many with | zero => omega | succ k => rfl) (by rw [List.length_nil]; omega) (Nat.zero_le _) (fun l hl => hok l (mem_risE_sub hc hl)) hst1 hK'
    simp only [List.length_nil] at hrec hst1 ⊢
    rw [hG1] at hst1 hmcg2
    rw [hG1, hv] at hrec
    rw [hG1, hv]
    refine SW.seq ?_
    refine SW.seq (SW.runN tok hO 1 (by cbv <;> rfl) (by trivial) ?_)
    refine OpsW.ldI tok (by cbv <;> rfl) (load_int (v := (many : Int)) hmcg2) ?_
    rw [hmn]
    refine OpsW.run tok hO (by cbv <;> rfl) (by trivial) ?_
    refine OpsW.splitG (by cbv <;> rfl) (fun hb => ?_) (fun hb => ?_)
    rotate_left
    · have hgt : ¬ v ≤ mn := by subst hO; exact of_decide_eq_false hb
      have hc : c = many + 1 := by omega
      refine OpsW.run tok hO (by cbv <;> rfl) (by trivial) ?_
      refine SW.cond (t := false) (by cbv <;> rfl) (SW.exit ?_)
      refine ⟨_, _, rfl, rfl, [(52, .cells none false [extV mc]), (51, .cells none false [.sl q 0 0 1 ex]), (49, .cells none false [.yld y]), (q, .cells fm false G1)], h', n', hget q1, rfl, hlow, hn, .inl ?_⟩
      rw [hE, ← hc]; exact hK'
    · have hcle : v ≤ mn := by subst hO; exact of_decide_eq_true hb
      refine OpsW.run tok hO (by cbv <;> rfl) (by trivial) ?_
      refine OpsW.apply (by cbv <;> rfl) (show ApplyW Try.prog (extV mc) _ _ _ from ⟨en101, hrec (by omega)⟩) fun w st' hk => ?_
      rcases hk with ⟨rfl, h3, n3, hst3, hk⟩ | ⟨rfl, pre, l, post, h3, n3, hE3, hst3, hk⟩
      · have hst4 := hst3
        obtain ⟨q', fm', fl', N', k1, k2, k3, k4, k5, k6, rfl⟩ := hst3
        obtain ⟨G3, hG3⟩ : ∃ G3, flatG 1 (intC fl') N' = G3 := ⟨_, rfl⟩
        simp only [List.length_nil] at hst4 ⊢
        rw [hG3] at hst4
        rw [hG3]
        refine OpsW.run tok hO (by cbv <;> rfl) (by trivial) ?_
        refine SW.cond (t := true) (by cbv <;> rfl) (SW.skip ?_)
        refine SW.seq (SW.block (SW.skip ?_))
        refine SW.run tok hO (by cbv <;> rfl) (by trivial) ?_
        have hinc : O.bin .add .i64 v 1 = ((c + 1 : Nat) : Int) := by
          subst hO
          show add64 v 1 = _
          rw [add64_in _ _ (by omega) (by omega)]; omega
        refine ⟨many + 1 - (c + 1), by omega, _, c + 1, h3, n3, rfl, ⟨rfl, rfl, congrArg (fun z => AV.lit (.int .i64 z)) hinc, trivial⟩, hst4, ?_, by omega, rfl⟩
        rw [hsn, hF]; rw [hF] at hk; exact hk
      · obtain ⟨q', fm', fl', N', k1, k2, k3, k4, k5, k6, rfl⟩ := hst3
        obtain ⟨G3, hG3⟩ : ∃ G3, flatG 1 (intC fl') N' = G3 := ⟨_, rfl⟩
        simp only [List.length_nil]
        rw [hG3]
        refine OpsW.run tok hO (by cbv <;> rfl) (by trivial) ?_
        refine SW.cond (t := false) (by cbv <;> rfl) (SW.exit ?_)
        obtain ⟨hn3, hl3⟩ := hidS _ _ _ _ hk
        obtain ⟨r, hr⟩ := range_split (c + 1) (many + 1) (by omega)
        refine ⟨_, _, rfl, rfl, [(52, .cells none false [extV mc]), (51, .cells none false [.sl q' 0 0 1 ex]), (49, .cells none false [.yld y]), (q', .cells fm' false G3)], h3, n3, hget k1, rfl, hl3, hn3, .inr ⟨(List.range c).flatMap F ++ pre, l, post ++ r.flatMap F, ?_, hk⟩⟩
        have hE4 : F c = pre ++ l :: post := by rw [hF]; exact hE3
        rw [hE, hr, List.flatMap_append, hsn, hE4]
        simp [List.append_assoc]
theorem rising74 (h : Hp) (n : Nat) : CallW Try.prog 80 [iV (many : Int)] ⟨h, n⟩ (fun v st' => v = .fn (.func 100) [] [.ptr n 0] ∧ st' = ⟨(n, .cells none false [iV (many : Int)]) :: h, n + 1⟩) := by
  obtain ⟨O, hO⟩ : ∃ O : Ar, O = std := ⟨_, rfl⟩
  obtain ⟨mn, hmn⟩ : ∃ mn : Int, (many : Int) = mn := ⟨_, rfl⟩
  rw [hmn]
  refine callW_of_body tok Try.func80 rfl ?_
  refine SW.seqRun tok hO (by cbv <;> rfl) (by trivial) ?_
  refine SW.seqRun tok hO (by cbv <;> rfl) (by trivial) ?_
  exact SW.ret ⟨_, _, rfl, rfl, rfl, rfl⟩
end
end Go.Fz
namespace Go.Fz
open Go.Proofs
set_option maxRecDepth 100000
noncomputable def findRF : Code → Option (Code × Code)
  | .rangeFunc _ _ a b => some (a, b)
  | .seq a b => match findRF a with
    | some r => some r
    | none => findRF b
  | .scope a => findRF a
  | .block _ a => findRF a
  | _ => none
section
variable (d : DayD) (XO : AV) (hX : Below 0 XO) (E : List (Mk × Nat)) (cl : Nat) (hb : Born E cl)
end
end Go.Fz
namespace Go.Fz
open Go.Proofs
set_option maxRecDepth 100000
theorem risE_len {many : Nat} : ∀ (m : Nat) (p : List Nat) (s : Nat) (l : List Nat), l ∈ risE many m p s → l.length = m + p.length
  | 0, p, s, l, h => by rw [List.mem_singleton.1 h]; omega
  | m + 1, p, s, l, h => by
    obtain ⟨c, _, hc⟩ := List.mem_flatMap.1 h
    have := risE_len m _ _ _ hc
    rw [List.length_append, List.length_singleton] at this
    omega
theorem risL_len {many : Nat} {l : List Nat} (h : l ∈ risL many) : l.length ≤ many := by
  obtain ⟨m, hm, hl⟩ := List.mem_flatMap.1 h
  have := risE_len _ _ _ _ hl
  have := List.mem_range.1 hm
  simp at *
  omega
section
variable (d : DayD) (XO : AV) (E : List (Mk × Nat)) (cl : Nat)
end
end Go.Fz
namespace Go.Fz
open Go.Proofs
set_option maxRecDepth 100000
section
variable (d : DayD) (L : Nat) (G : Nat → Nat → AV) (ME : List (AV × AV × Nat)) (cl : Nat)
end
end Go.Fz
namespace Go.Fz
open Go.Proofs
set_option maxRecDepth 100000
section
variable (d : DayD) (L : Nat) (G : Nat → Nat → AV) (ME : List (AV × AV × Nat)) (cl : Nat) (Q : List Nat → Bool)
variable {d L G ME cl}
end
end Go.Fz
namespace Go.Fz
open Go.Proofs
set_option maxRecDepth 100000
end Go.Fz
namespace Go.Fz
open Go.Proofs
set_option maxRecDepth 100000
set_option linter.unusedVariables false
end Go.Fz
namespace Go.Fz
open Go.Proofs
set_option maxRecDepth 100000
set_option linter.unusedVariables false
end Go.Fz
namespace Go.Fz
open Go.Proofs
set_option maxRecDepth 100000
end Go.Fz
namespace Go.Fz
open Go.Proofs
set_option maxRecDepth 100000
section
variable (nw nl : Nat) (f0 f1 f2 f3 : Nat → Int) (z4 z5 z6 z7 : Int)
end
end Go.Fz
namespace Go.Fz
open Go.Proofs
set_option maxRecDepth 100000
section
end
end Go.Fz
namespace Go.Fz
open Go.Proofs
set_option maxRecDepth 100000
def mnN (lo hi : Nat → Int) : Nat → Int
  | 0 => 1
  | i + 1 => minI 3000 (mul64 (mnN lo hi i) (size64 (lo i) (hi i)))
end Go.Fz
namespace Go.Fz
open Go.Proofs
set_option maxRecDepth 100000
end Go.Fz
namespace Go.Fz
open Go.Proofs
set_option maxRecDepth 100000
end Go.Fz
namespace Go.Fz
open Go.Proofs
set_option maxRecDepth 100000
def bitB (bits : Int) (i : Nat) : Bool := std.cmp .eql (std.bin .rem .i64 (std.bin .shr .i64 bits (std.conv .u64 (Int.ofNat i))) 2) 1
def selL (bits : Int) : Nat → List Nat
  | 0 => []
  | i + 1 => if bitB bits i then selL bits i ++ [i] else selL bits i
theorem selL_len (bits : Int) : ∀ i, (selL bits i).length ≤ i
  | 0 => Nat.le_refl _
  | i + 1 => by
    have := selL_len bits i
    show (if bitB bits i then selL bits i ++ [i] else selL bits i).length ≤ i + 1
    split
    · rw [List.length_append, List.length_singleton]; omega
    · omega
theorem selL_mem (bits : Int) (j : Nat) : ∀ i, j ∈ selL bits i ↔ j < i ∧ bitB bits j = true
  | 0 => ⟨fun h => (by cases h), fun h => absurd h.1 (Nat.not_lt_zero _)⟩
  | i + 1 => by
    have ih := selL_mem bits j i
    show j ∈ (if bitB bits i then selL bits i ++ [i] else selL bits i) ↔ _
    by_cases hb : bitB bits i = true
    · rw [if_pos hb, List.mem_append, ih, List.mem_singleton]
      constructor
      · rintro (⟨h1, h2⟩ | rfl)
        · exact ⟨by omega, h2⟩
        · exact ⟨by omega, hb⟩
      · rintro ⟨h1, h2⟩
        by_cases e : j = i
        · exact .inr e
        · exact .inl ⟨by omega, h2⟩
    · rw [if_neg hb, ih]
      constructor
      · exact fun ⟨h1, h2⟩ => ⟨by omega, h2⟩
      · rintro ⟨h1, h2⟩
        by_cases e : j = i
        · subst e; exact absurd h2 hb
        · exact ⟨by omega, h2⟩
end Go.Fz
namespace Go.Fz
open Go.Proofs
set_option maxRecDepth 100000
end Go.Fz
namespace Go.Fz
open Go.Proofs
set_option maxRecDepth 100000
end Go.Fz
namespace Go.Fz
open Go.Proofs
set_option maxRecDepth 100000
end Go.Fz
namespace Go.Fz
open Go.Proofs
set_option maxRecDepth 100000
end Go.Fz
namespace Go.Fz
open Go.Proofs
set_option maxRecDepth 100000
end Go.Fz
namespace Go.Fz
variable {P : Program}
theorem frzs_ok {φ : Fi} {st : St} {w : World} (hr : Rel φ st w) {D : Nat → Bool} (m : Nat) : ∀ {xs : List AV} {us : List Value}, VRL φ xs us → VRL (φ.froz st.h D w) (xs.map (frz st.h D m)) us
  | [], _, h => by cases h; exact .nil
  | a :: xs, _, h => by cases h with | cons h t => exact .cons (frz_ok hr m h) (frzs_ok hr m t)
theorem call_frz {g : FuncId} {args args2 : List AV} {r : Value} {st : St} (D : Nat → Bool) (m : Nat) (hp : Pure P g args2 (.lit r)) (hf : freeB st.h D = true) (ha : Eqvs (args.map (frz st.h D m)) args2) :
    CallW P g args st (fun v st' => v = .lit r ∧ st' = st) := by
  intro φ w cargs n hrel hargs
  obtain ⟨k1, _⟩ := hrel.freeze hf
  have hargs' := ha.ok (frzs_ok hrel (D := D) m hargs)
  have hrel0 : Rel (φ.froz st.h D w) ⟨[], st.n⟩ w := ⟨k1.n, fun _ _ h => by simp [Hp.get] at h, fun _ _ h => by simp [Hp.get] at h, fun _ _ h => by simp [Hp.get] at h, fun _ _ _ _ h => by simp [Hp.get] at h, fun _ _ _ h => by simp [Hp.get] at h, fun b c hb => ⟨(k1.froz b c hb).1, (k1.froz b c hb).2.1, fun _ _ h => by simp [Hp.get] at h⟩⟩
  refine (hp.call ⟨[], st.n⟩ (φ.froz st.h D w) w cargs n hrel0 hargs').mono fun e W' hq => ?_
  obtain ⟨v, cv, st', φ', rfl, ⟨rfl, rfl⟩, hv, _, _, hfr⟩ := hq
  have hcv := hv.lit_inv
  have hblk : ∀ k, k < w.heap.size → W'.heap[k]? = w.heap[k]? := fun k hk => hfr.block k hk fun ⟨id, o, h, _⟩ => by simp [Hp.get] at h
  refine ⟨.lit r, cv, st, φ, rfl, ⟨rfl, rfl⟩, by rw [hcv]; exact .lit _, Ext.refl _, ?_, ⟨hfr.os, hfr.tape, hfr.output, hfr.size, fun k hk _ => hblk k hk, fun k hk => .inl hk, fun b c hb => .inl hb⟩⟩
  refine ⟨hrel.n, hrel.lt, fun id o h => Nat.lt_of_lt_of_le (hrel.blk id o h) hfr.size, fun id o h => (hrel.obj id o h).same (Ext.refl _) (by rw [hrel.n]; exact hrel.lt id o h) (hblk _ (hrel.blk id o h)), hrel.sep, hrel.fam, fun b c hb => ?_⟩
  obtain ⟨h1, h2, h3⟩ := hrel.froz b c hb
  refine ⟨Nat.lt_of_lt_of_le h1 hfr.size, fun i v hv => ?_, h3⟩
  rw [← h2 i v hv]
  exact World.cell?_of_block (hblk b h1)
end Go.Fz
namespace Go.Fz
open Go.Proofs
set_option maxRecDepth 100000
section
variable {P : Program} {T : Ti}
end
end Go.Fz
namespace Go.Fz
open Go.Proofs
set_option maxRecDepth 100000
end Go.Fz
namespace Go.Fz
open Go.Proofs
set_option maxRecDepth 100000
set_option linter.unusedVariables false
end Go.Fz
namespace Go.Fz
open Go.Proofs
set_option maxRecDepth 100000
set_option linter.unusedVariables false
end Go.Fz
namespace Go.Fz
open Go.Proofs
set_option maxRecDepth 100000
set_option linter.unusedVariables false
end Go.Fz
namespace Go.Fz
open Go.Proofs
set_option maxRecDepth 100000
set_option linter.unusedVariables false
end Go.Fz
namespace Go.Fz
open Go.Proofs
set_option maxRecDepth 100000
end Go.Fz
namespace Go.Fz
open Go.Proofs
set_option maxRecDepth 100000
def befF (fa fb : Nat → Int) (na nb : Nat) : Nat → Nat → Bool
  | _, 0 => decide ((na : Int) < nb)
  | i, k + 1 => if i < na ∧ i < nb then (if fa i = fb i then befF fa fb na nb (i + 1) k else decide (fa i < fb i)) else decide ((na : Int) < nb)
set_option pp.deepTerms false
set_option pp.deepTerms.threshold 5
def shortB (na nb : Nat) (fa fb : Nat → Int) : Bool := decide ((na : Int) < nb) || (decide ((na : Int) = nb) && befF fa fb na nb 0 (na + 1))
end Go.Fz
namespace Go.Fz
open Go.Proofs
set_option maxRecDepth 100000
def lI (l : List Nat) (i : Nat) : Int := ((l.getD i 0 : Nat) : Int)
theorem lI_snoc (l : List Nat) (i : Nat) : flatG 1 (intC (lI l)) l.length ++ [iV (i : Int)] = flatG 1 (intC (lI (l ++ [i]))) (l.length + 1) := by
  have h1 : flatG 1 (intC (lI (l ++ [i]))) l.length = flatG 1 (intC (lI l)) l.length := flatG_congr fun j k hj => by
    show iV (lI (l ++ [i]) j) = iV (lI l j)
    unfold lI
    rw [List.getD_eq_getElem?_getD, List.getElem?_append_left hj, ← List.getD_eq_getElem?_getD]
  have h2 : lI (l ++ [i]) l.length = (i : Int) := by unfold lI; simp
  show _ = flatG 1 (intC (lI (l ++ [i]))) l.length ++ [iV (lI (l ++ [i]) l.length)]
  rw [h1, h2]
end Go.Fz
namespace Go.Fz
open Go.Proofs
set_option maxRecDepth 100000
def mskL (l : List Nat) : Int := l.foldl (fun (m : Int) (x : Nat) => std.bin .or .i64 m (std.bin .shl .i64 1 (std.conv .u64 (x : Int)))) 0
def shL (a b : List Nat) : Bool := shortB a.length b.length (lI a) (lI b)
end Go.Fz
namespace Go.Fz
open Go.Proofs
set_option maxRecDepth 100000
section
variable (d : DayD) (k w lo hi : Int)
end
end Go.Fz
namespace Go.Fz
open Go.Proofs
set_option maxRecDepth 100000
section
variable {T : Ti}
end
end Go.Fz
namespace Go.Fz
open Go.Proofs
set_option maxRecDepth 100000
section
variable {P : Program} {T : Ti}
def scalB (T : Ti) (t : TypeId) : Bool := match T t with
  | some i => !(aggD i.desc)
  | none => false
theorem load_at {t : TypeId} {h : Hp} {id off : Nat} {fm : Option Nat} {ro : Bool} {cs : List AV} {v : AV} (hs : scalB T t = true) (hg : h.get id = some (.cells fm ro cs)) (hc : cs[off]? = some v) : loadA T h t (.ptr id off) = some v := by
  unfold scalB at hs
  split at hs
  · rename_i i hi
    simp only [loadA, ptrOf, cellsAt, hg, partA, hi]
    rw [if_neg (by simpa using hs)]
    exact hc
  · cases hs
end
end Go.Fz
namespace Go.Fz
open Go.Proofs
set_option maxRecDepth 100000
end Go.Fz
namespace Go.Fz
open Go.Proofs
set_option maxRecDepth 100000
set_option linter.unusedVariables false
end Go.Fz
namespace Go.Fz
open Go.Proofs
set_option maxRecDepth 100000
set_option linter.unusedVariables false
end Go.Fz
namespace Go.Fz
open Go.Proofs
set_option maxRecDepth 100000
set_option linter.unusedVariables false
def selT (p : Nat → Bool) : Nat → List Nat
  | 0 => []
  | i + 1 => if p i then selT p i ++ [i] else selT p i
end Go.Fz
namespace Go.Fz
open Go.Proofs
set_option maxRecDepth 100000
end Go.Fz
namespace Go.Fz
open Go.Proofs
set_option maxRecDepth 100000
set_option linter.unusedVariables false
section
variable {P : Program}
end
end Go.Fz
namespace Go.Fz
open Go.Proofs
set_option maxRecDepth 100000
set_option linter.unusedVariables false
end Go.Fz
namespace Go.Fz
open Go.Proofs
set_option maxRecDepth 100000
set_option linter.unusedVariables false
end Go.Fz
namespace Go.Fz
open Go.Proofs
set_option maxRecDepth 100000
set_option linter.unusedVariables false
end Go.Fz
