/-
  MORE STEPS: a slice against nil; tuples. Own work of the verifier of watercress.
-/
import Derived.Laws.Cover3
import Derived.Test.YtgfahkehkpjabaaFzb
import Derived.Test.YtgfahkehkpjabaaFzf
namespace Go.Fz
variable {P : Program} {T : Ti}

/-- The operand of a comparison with nil that comes next. -/
def nilAt (T : Ti) (ops : Array Oper) (i : Nat) (f : Fm) : Option AV := match ops[i]? with
  | none => none
  | some o => match wantA ops f.ts o with
    | some true => match o.op with
      | .binOp .eql t x y _ => match T t with
        | some ti => match ti.desc with
          | .slice _ => match Operand.av f.ts y with
            | .lit (.slice none 0 0) => some (Operand.av f.ts x)
            | _ => none
          | _ => none
        | none => none
      | _ => none
    | _ => none

theorem OpsW.nilIsl (hT : TOk P T) {rd : Option Nat} {ops : Array Oper} {i : Nat} {l : List Nat} {K : Fm → St → Prop} {f : Fm} {st : St} {len sz : Nat} {ex : Bool} {g : Nat → Nat → AV} (hn : nilAt T ops i f = some (.isl len sz ex g))
    (h1 : len = 0 → OpsW P rd ops l K (putAt ops i f (.lit (.bool true))) st) (h0 : OpsW P rd ops l K (putAt ops i f (.lit (.bool false))) st) : OpsW P rd ops (i :: l) K f st := by
  unfold nilAt at hn
  split at hn
  · cases hn
  · rename_i o ho
    split at hn
    · rename_i hw
      split at hn
      · rename_i t x y yt hx
        split at hn
        · rename_i ti hti
          split at hn
          · rename_i e hd
            split at hn
            · rename_i hy
              simp only [Option.some.injEq] at hn
              have hu := (hT t ti hti).und
              rw [hd] at hu
              have hput : ∀ v, putAt ops i f v = f.put o.dst v := fun v => by simp [putAt, ho]
              rw [hput] at h1 h0
              have key : ∀ (b : Bool) (φ : Fi) (w : World) (a : Act) (p : Option Addr) (l c : Nat), ActR φ f a → a.eval x = .slice p l c → p.isNone = b → (execOp a.eval o).run P w = .ok (.value (.bool b)) w := fun b φ w a p l c ha hp hb => by
                have hyy := opR_of ha.ts y
                rw [hy] at hyy
                have hyy := hyy.lit_inv
                have h1 := run_equalIn_slice_nil (P := P) (w := w) 9999 t e p l c hu
                subst hb
                simp only [execOp, hx, hp, hyy]
                simp [Sem.run_bind, eqGuard, Result.andThen, binOp, Op.equal, Op.maxDepth, h1]
              intro φ w a n Q k1 k2 k3 hQ
              have hxx := opR_of k3.ts x
              rw [hn] at hxx
              simp only [wpOpsIn, ho]
              rw [wanted_eq k3 ops hw]
              simp only [if_true]
              refine ⟨fun _ _ => trivial, ?_⟩
              rw [semAt_eq (fun c hc => by rw [hx] at hc; cases hc)]
              rcases hxx.isl_inv with ⟨hl, hv⟩ | ⟨b, o', cap, c, us, hv, _⟩
              · rw [key true φ w a _ _ _ k3 hv rfl]
                exact h1 hl φ w _ n Q k1 k2 (k3.put o.dst (.lit _)) hQ
              · rw [key false φ w a _ _ _ k3 hv rfl]
                exact h0 φ w _ n Q k1 k2 (k3.put o.dst (.lit _)) hQ
            · cases hn
          · cases hn
        · cases hn
      · cases hn
    · cases hn

/-- An append to an empty slice with an array of its own. -/
theorem append_empty {t id sz n : Nat} {ex : Bool} {g : Nat → Nat → AV} {st : St} (h : sliceB T t sz = true) (hx : st.h.get id = some (.cells none false [])) (hn : n < 1048576) (h0 : 0 < n) (hone : ∀ i k, (g i k).one = true) :
    appendA T st t t (.sl id 0 0 sz true) (.isl n sz ex g) = some (.sl st.n 0 n sz false, st.push (.cells none false (flatG sz g n))) := by
  obtain ⟨i, j, e, h1, h2, h3, h4, h5, h6, h7, h8⟩ := sliceB_ok h
  subst h4
  unfold appendA
  have hall : (flatG j.size g n).all AV.one = true := by
    rw [List.all_eq_true]
    intro a ha
    induction n with
    | zero => cases ha
    | succ m ih =>
      simp only [flatG, List.mem_append] at ha
      rcases ha with ha | ha
      · rcases Nat.eq_zero_or_pos m with hm | hm
        · subst hm; cases ha
        · exact ih (by omega) hm ha
      · obtain ⟨q, hq⟩ := List.mem_iff_getElem?.1 ha
        rw [cellsFrom_get] at hq
        split at hq
        · cases hq; exact hone _ _
        · cases hq
  simp only [h1, h2, h3, slCells, cellsAt, hx, slLen]
  rw [if_pos ⟨trivial, by simp⟩, if_pos ⟨trivial, h5⟩]
  simp only [Nat.zero_add]
  rw [if_neg (by rw [hall]; simp; omega), if_neg (by omega)]
  simp
theorem append_none {t id sz : Nat} {ex : Bool} {g : Nat → Nat → AV} {st : St} (h : sliceB T t sz = true) (hx : st.h.get id = some (.cells none false [])) :
    appendA T st t t (.sl id 0 0 sz true) (.isl 0 sz ex g) = some (.sl id 0 0 sz true, st) := by
  obtain ⟨i, j, e, h1, h2, h3, h4, h5, h6, h7, h8⟩ := sliceB_ok h
  subst h4
  unfold appendA
  simp only [h1, h2, h3, slCells, cellsAt, hx, slLen]
  rw [if_pos ⟨trivial, by simp⟩, if_pos ⟨trivial, h5⟩]
  simp [flatG]
  omega
theorem OpsW.appA (hT : TOk P T) {rd : Option Nat} {ops : Array Oper} {l : List Nat} {K : Fm → St → Prop} {f : Fm} {st st' : St} {j t : Nat} {s x r : AV}
    (ha : appAt ops j f = some (t, s, x)) (hr : appendA T st t t s x = some (r, st')) (h : OpsW P rd ops l K (putAt ops j f r) st') : OpsW P rd ops (j :: l) K f st := by
  obtain ⟨o, h1, h2, h3, h4⟩ := appAt_ok ha
  rw [h4] at h
  exact OpsW.append hT h1 h2 (by rw [h3]; exact hr) h
theorem AnyE.appK (hT : TOk P T) {rd : Option Nat} {ops : Array Oper} {M : List Nat} {K : Fm → St → Prop} {fuel : Nat} {pend pend' : List (Nat × AV)} {listed : Array Bool} {f : Fm} {st st' : St} {j t : Nat} {s x r : AV}
    (hj : onlyD ops M pend listed = some (j, pend')) (ha : appAt ops j f = some (t, s, x)) (hr : appendA T st t t s x = some (r, st')) (hk : AllP (fun p => lightV T ops st'.h (putAt ops j f r) p.1 = some p.2) pend')
    (h : AnyE P T ops M rd K fuel pend' (listed.setIfInBounds j true) (putAt ops j f r) st') : AnyE P T ops M rd K (fuel + 1) pend listed f st := fun k1 k2 k3 => by
  obtain ⟨o, h1, h2, h3, h4⟩ := appAt_ok ha
  unfold onlyD at hj
  split at hj
  · rename_i j' hrd
    split at hj
    · rename_i o1 ho1
      split at hj
      · rename_i hnl
        simp only [Option.some.injEq, Prod.mk.injEq] at hj
        obtain ⟨rfl, hd⟩ := hj
        rw [h4] at hk h
        refine AnyE.one j' h1 (by rw [hrd]; exact Nat.beq_refl j') pend' hd (OpsW.append hT h1 h2 (by rw [h3]; exact hr) (.nil ⟨⟨r, rfl⟩, (show PendOk T ops pend' (f.put o.dst r) st'.h from fun p hp => LV.of (hk.ok p hp)), h⟩)) k1 k2 k3
      · cases hj
    · cases hj
  · cases hj
theorem AnyE.appNilK (hT : TOk P T) {rd : Option Nat} {ops : Array Oper} {M : List Nat} {K : Fm → St → Prop} {fuel : Nat} {pend pend' : List (Nat × AV)} {listed : Array Bool} {f : Fm} {st : St} {j t id sz : Nat} {ex : Bool} {cs : List AV}
    (hj : onlyD ops M pend listed = some (j, pend')) (ha : appAt ops j f = some (t, .lit (.slice none 0 0), .sl id 0 1 sz ex)) (hx : st.h.get id = some (.cells none false cs)) (hb : sliceB T t sz = true) (hl : cs.length = sz) (hone : cs.all AV.one = true)
    (hk : AllP (fun p => lightV T ops (st.push (.cells none false cs)).h (putAt ops j f (.sl st.n 0 1 sz false)) p.1 = some p.2) pend')
    (h : AnyE P T ops M rd K fuel pend' (listed.setIfInBounds j true) (putAt ops j f (.sl st.n 0 1 sz false)) (st.push (.cells none false cs))) : AnyE P T ops M rd K (fuel + 1) pend listed f st :=
  AnyE.appK hT hj ha (append_nilB hb hx hl hone) hk h
theorem AnyE.appOneK (hT : TOk P T) {rd : Option Nat} {ops : Array Oper} {M : List Nat} {K : Fm → St → Prop} {fuel : Nat} {pend pend' : List (Nat × AV)} {listed : Array Bool} {f : Fm} {st : St} {j t id id0 sz : Nat} {ex : Bool} {cs : List AV} {G : List AV} {g : Nat → Nat → AV} {len : Nat}
    (hj : onlyD ops M pend listed = some (j, pend')) (ha : appAt ops j f = some (t, .sl id0 0 len sz false, .sl id 0 1 sz ex)) (hx : st.h.get id = some (.cells none false cs)) (hs : st.h.get id0 = some (.cells none false G)) (hG : G = flatG sz g len) (hb : sliceB T t sz = true) (hl : cs.length = sz) (hone : cs.all AV.one = true) (hlen : len < 1048576)
    (h : ∀ G', G' = flatG sz g len ++ cs → AllP (fun p => lightV T ops (St.push ⟨truncH id0 (len * sz) id0 st.h, st.n⟩ (.cells (some id0) false G')).h (putAt ops j f (.sl st.n 0 (len + 1) sz false)) p.1 = some p.2) pend' ∧
      AnyE P T ops M rd K fuel pend' (listed.setIfInBounds j true) (putAt ops j f (.sl st.n 0 (len + 1) sz false)) (St.push ⟨truncH id0 (len * sz) id0 st.h, st.n⟩ (.cells (some id0) false G'))) : AnyE P T ops M rd K (fuel + 1) pend listed f st := by
  subst hG
  obtain ⟨h1, h2⟩ := h _ rfl
  exact AnyE.appK hT hj ha (append_oneB hb hx hl hone hs hlen) h1 h2
end Go.Fz

/-
  Layer 1: BedPlays returns true (slices.Clone, Play, the statement). Own work of the verifier of watercress.
-/
namespace Go.Fz
open Go.Proofs
set_option maxRecDepth 100000

def flowC (W : Wat) (i k : Nat) : AV := iV (W i k)
theorem frz_flatI {h : Hp} {D : Nat → Bool} {id sz n : Nat} {fm : Option Nat} {ex : Bool} {z : Nat → Nat → Int} (hd : D id = true) (hg : h.get id = some (.cells fm false (flatG sz (fun i k => iV (z i k)) n))) :
    Eqv (frz h D 3 (.sl id 0 n sz ex)) (.isl n sz ex fun i k => iV (z i k)) := by
  have e : frz h D 3 (.sl id 0 n sz ex) = .isl n sz ex (fun i k => frz h D 2 ((flatG sz (fun i k => iV (z i k)) n).getD (0 + i * sz + k) .any)) := by
    show (if D id = true then (match h.get id with | some (.cells _ false cs) => if 0 + n * sz ≤ cs.length then AV.isl n sz ex (fun i k => frz h D 2 (cs.getD (0 + i * sz + k) .any)) else .any | _ => .any) else _) = _
    rw [if_pos hd, hg]
    exact if_pos (by rw [flatG_length]; omega)
  rw [e]
  refine Eqv.isl rfl fun i k hi hk => ?_
  have : (flatG sz (fun i k => iV (z i k)) n).getD (0 + i * sz + k) .any = iV (z i k) := by
    rw [List.getD_eq_getElem?_getD, show 0 + i * sz + k = i * sz + k by omega, flatG_get sz _ n i k hi hk]; rfl
  rw [this]; exact Eqv.refl _

/-- The same cells, known to be no more than so many. -/
theorem Eqv.isl_ex {n sz : Nat} {ex : Bool} {g : Nat → Nat → AV} : Eqv (.isl n sz ex g) (.isl n sz false g) := fun φ _ hv => by
  cases hv with
  | isl _ _ _ _ b o cap c us hz hc hus hcap hex => exact .isl n sz false g b o cap c us hz hc hus hcap (fun h => by cases h)
  | isl0 => exact .isl0 _ _ _

set_option maxHeartbeats 4000000 in
theorem clone_ok (n : Nat) (ex : Bool) (W : Wat) (hn : n < 1000) : Pure Try.prog 69 [.isl n 3 ex (flowC W)] (.isl n 3 false (flowC W)) := by
  obtain ⟨O, hO⟩ : ∃ O : Ar, O = std := ⟨_, rfl⟩
  have hb : ∀ {m : Nat} {e : Bool}, Below 0 (.isl m 3 e (flowC W)) := Below.isl fun _ _ _ _ => Below.lit
  refine pure_of_body tok 3 Try.func69 en69 rfl ⟨hb, trivial⟩ hb ?_
  refine SW.seqRun tok hO (by cbv <;> rfl) (by trivial) ?_
  refine SW.seq ?_
  refine SW.seq (SW.runN tok hO 1 (by cbv <;> rfl) (by trivial) ?_)
  refine OpsW.nilIsl tok (by cbv <;> rfl) (fun hz => ?_) ?_
  · refine OpsW.nil ?_
    refine SW.cond (t := true) (by cbv <;> rfl) ?_
    refine SW.seqRun tok hO (by cbv <;> rfl) (by trivial) ?_
    refine SW.ret ⟨_, _, rfl, rfl, ?_⟩
    subst hz
    exact Eqv.nil
  · refine OpsW.nil ?_
    refine SW.cond (t := false) (by cbv <;> rfl) (SW.skip ?_)
    refine SW.seq (SW.runN tok hO 2 (by cbv <;> rfl) (by trivial) ?_)
    rcases Nat.eq_zero_or_pos n with hz | hz
    · subst hz
      refine OpsW.appA tok (by cbv <;> rfl) (by exact append_none (by kernel_rfl) (by rfl)) ?_
      refine OpsW.run tok hO (by cbv <;> rfl) (by trivial) ?_
      refine SW.ret ⟨_, _, rfl, rfl, ?_⟩
      exact fun φ u hv => Eqv.isl_ex φ u (frz_flatI (z := W) (n := 0) (fm := none) rfl rfl φ u hv)
    · refine OpsW.appA tok (by cbv <;> rfl) (by exact append_empty (by kernel_rfl) (by rfl) (by omega) hz fun _ _ => rfl) ?_
      generalize hG : flatG 3 (flowC W) n = G
      refine OpsW.run tok hO (by cbv <;> rfl) (by trivial) ?_
      refine SW.ret ⟨_, _, rfl, rfl, ?_⟩
      subst hG
      exact frz_flatI (z := W) (fm := none) rfl rfl

theorem fault24_ok (f : FarmD) (hs : f.small) : Pure Try.prog 24 [farmV f] (iV f.faultN) := by
  obtain ⟨O, hO⟩ : ∃ O : Ar, O = std := ⟨_, rfl⟩
  refine pure_of_body tok 3 Try.func24 en24 rfl ⟨farmV_below f, trivial⟩ Below.lit ?_
  refine SW.seqRun tok hO (by cbv <;> rfl) (by trivial) ?_
  refine SW.seqRun tok hO (by cbv <;> rfl) (by trivial) ?_
  refine OpsW.callI (fault_ok f hs) (by cbv <;> rfl) fun e he => ?_
  refine OpsW.run tok hO (by cbv <;> rfl) (by trivial) ?_
  exact SW.ret ⟨_, _, rfl, rfl, Eqv.int he⟩

theorem slice_arr {i j : TI} {h : Hp} {t e id off n : Nat} {fm : Option Nat} {cs : List AV} {k : IntKind} {u : Nat} (ht : T t = some i) (hd : i.desc = .array n e) (he : T e = some j) (hx : h.get id = some (.cells fm false cs)) (hu : u ≤ n) (hl : off + n * j.size ≤ cs.length) :
    sliceA T h t (.ptr id off) none (some (.lit (.int k (u : Int)))) none = some (.sl id (off + 0 * j.size) (u - 0) j.size (u == n)) := by
  unfold sliceA
  simp only [ht, hd, he, hx, natOr, natOf]
  rw [if_pos (Int.natCast_nonneg u)]
  simp only [Int.toNat_natCast]
  rw [if_pos ⟨Nat.zero_le _, hu, by simp, hl⟩]

/-- A cut of an array, up to so many elements. -/
def cutAt (ops : Array Oper) (i : Nat) (f : Fm) : Option (TypeId × AV × AV) := match ops[i]? with
  | none => none
  | some o => match wantA ops f.ts o with
    | some true => match o.op with
      | .slice t x none (some hi) none => some (t, Operand.av f.ts x, Operand.av f.ts hi)
      | _ => none
    | _ => none
def arrB (T : Ti) (t n sz : Nat) : Bool := match T t with
  | some i => match i.desc with
    | .array m e => match T e with
      | some j => Nat.beq m n && Nat.beq j.size sz
      | none => false
    | _ => false
  | none => false
theorem OpsW.cutArr {P : Program} (hT : TOk P T) {rd : Option Nat} {ops : Array Oper} {l : List Nat} {K : Fm → St → Prop} {f : Fm} {st : St} {j t id off n sz u : Nat} {fm : Option Nat} {cs : List AV} {k : IntKind}
    (hc : cutAt ops j f = some (t, .ptr id off, .lit (.int k (Int.ofNat u)))) (hb : arrB T t n sz = true) (hx : st.h.get id = some (.cells fm false cs)) (hu : u ≤ n) (hl : off + n * sz ≤ cs.length)
    (h : OpsW P rd ops l K (putAt ops j f (.sl id off u sz (u == n))) st) : OpsW P rd ops (j :: l) K f st := by
  unfold cutAt at hc
  split at hc
  · cases hc
  · rename_i o ho
    split at hc
    · rename_i hw
      split at hc
      · rename_i t' x hi hop
        simp only [Option.some.injEq, Prod.mk.injEq] at hc
        obtain ⟨rfl, h2, h3⟩ := hc
        unfold arrB at hb
        split at hb
        · rename_i i hi1
          split at hb
          · rename_i m e hd
            split at hb
            · rename_i jj hj
              simp only [Bool.and_eq_true] at hb
              obtain rfl := Nat.eq_of_beq_eq_true hb.1
              obtain rfl := Nat.eq_of_beq_eq_true hb.2
              have hput : ∀ v, putAt ops j f v = f.put o.dst v := fun v => by simp [putAt, ho]
              rw [hput] at h
              refine OpsW.light hT ho hw (r := .sl id off u jj.size (u == m)) ?_ h
              have hs := slice_arr (k := k) hi1 hd hj hx hu hl
              rw [Nat.zero_mul, Nat.add_zero, Nat.sub_zero] at hs
              simp only [evG, hop, h2, h3, Option.map_none, Option.map_some]
              exact hs
            · cases hb
          · cases hb
        · cases hb
      · cases hc
    · cases hc

theorem cells24_get (W : Wat) (i k : Nat) (hi : i < 8) (hk : k < 3) : (cells24 W).getD (0 + i * 3 + k) .any = flowC W i k := by
  have h1 : i = 0 ∨ i = 1 ∨ i = 2 ∨ i = 3 ∨ i = 4 ∨ i = 5 ∨ i = 6 ∨ i = 7 := by omega
  have h2 : k = 0 ∨ k = 1 ∨ k = 2 := by omega
  rcases h1 with h | h | h | h | h | h | h | h <;> subst h <;> rcases h2 with h | h | h <;> subst h <;> rfl
theorem frz_24 {h : Hp} {D : Nat → Bool} {id n : Nat} {fm : Option Nat} {ex : Bool} {W : Wat} (hn : n ≤ 8) (hd : D id = true) (hg : h.get id = some (.cells fm false (cells24 W))) :
    Eqv (frz h D 3 (.sl id 0 n 3 ex)) (.isl n 3 ex (flowC W)) := by
  have e : frz h D 3 (.sl id 0 n 3 ex) = .isl n 3 ex (fun i k => frz h D 2 ((cells24 W).getD (0 + i * 3 + k) .any)) := by
    show (if D id = true then (match h.get id with | some (.cells _ false cs) => if 0 + n * 3 ≤ cs.length then AV.isl n 3 ex (fun i k => frz h D 2 (cs.getD (0 + i * 3 + k) .any)) else .any | _ => .any) else _) = _
    rw [if_pos hd, hg]
    exact if_pos (by show 0 + n * 3 ≤ 24; omega)
  rw [e]
  refine Eqv.isl rfl fun i k hi hk => ?_
  rw [cells24_get W i k (by omega) hk]; exact Eqv.refl _

def FarmD.playE (f : FarmD) (n : Nat) (fl : Nat → Int) : Int := if f.check = 0 then (if f.fits n fl then 0 else 2) else f.check
def FarmD.playL (f : FarmD) (n : Nat) (fl : Nat → Int) : AV := if f.check = 0 ∧ f.fits n fl = true then .isl f.nb 3 false (flowC (f.water fl)) else nl3
theorem FarmD.playL_below (f : FarmD) (n : Nat) (fl : Nat → Int) : Below 0 (f.playL n fl) := by
  unfold FarmD.playL
  split
  · exact Below.isl fun _ _ _ _ => Below.lit
  · exact Below.lit

set_option maxHeartbeats 4000000 in
theorem play20_ok (f : FarmD) (hs : f.small) (n : Nat) (ex : Bool) (fl : Nat → Int) (hn : n < 1000) : Pure Try.prog 20 [farmV f, intsV n ex fl] (.tup [f.playL n fl, iV (f.playE n fl)]) := by
  obtain ⟨O, hO⟩ : ∃ O : Ar, O = std := ⟨_, rfl⟩
  refine pure_of_body tok 3 Try.func20 en20 rfl ⟨farmV_below f, intsV_below n ex fl, trivial⟩ (Below.tup (AllB.ok ⟨f.playL_below n fl, Below.lit, trivial⟩)) ?_
  refine SW.seqRun tok hO (by cbv <;> rfl) (by trivial) ?_
  refine SW.seq ?_
  refine SW.seqRun tok hO (by cbv <;> rfl) (by trivial) ?_
  refine OpsW.callI (checkFarm_ok f hs) (by cbv <;> rfl) fun c hc => ?_
  refine OpsW.run tok hO (by cbv <;> rfl) (by trivial) ?_
  refine SW.seqRun tok hO (by cbv <;> rfl) (by trivial) ?_
  refine SW.condS (by cbv <;> rfl) (fun h => ?_) (fun h => SW.skip ?_)
  · have hcn : ¬ f.check = 0 := by subst hO; rw [← hc]; simpa [std] using h
    refine SW.seqRun tok hO (by cbv <;> rfl) (by trivial) ?_
    refine SW.ret ⟨_, _, rfl, rfl, ?_⟩
    unfold FarmD.playL FarmD.playE
    rw [if_neg (fun h => hcn h.1), if_neg hcn, ← hc]
    exact Eqv.refl _
  have hc0 : f.check = 0 := by subst hO; rw [← hc]; simpa [std] using h
  have hg := good_of_check hc0
  refine SW.seq ?_
  refine SW.seqRun tok hO (by cbv <;> rfl) (by trivial) ?_
  have call := fits_ok f n ex fl hn
  generalize hF : f.fits n fl = F at call
  refine OpsW.callP call (by cbv <;> rfl) ?_
  have hnot : O.not F = !F := by subst hO; rfl
  refine OpsW.run tok hO (by cbv <;> rfl) (by trivial) ?_
  refine SW.condS (by cbv <;> rfl) (fun h2 => ?_) (fun h2 => SW.skip ?_)
  · have hf : F = false := by have := hnot.symm.trans h2; simpa using this
    refine SW.seqRun tok hO (by cbv <;> rfl) (by trivial) ?_
    refine SW.ret ⟨_, _, rfl, rfl, ?_⟩
    unfold FarmD.playL FarmD.playE
    rw [if_neg (fun h => by rw [hF, hf] at h; exact absurd h.2 (by decide)), if_pos hc0, if_neg (by rw [hF, hf]; decide)]
    exact Eqv.refl _
  have hf : F = true := by have := hnot.symm.trans h2; simpa using this
  have hns : n = f.ns := by
    rw [hf] at hF
    simp only [FarmD.fits, Bool.and_eq_true, decide_eq_true_eq] at hF; exact hF.1
  refine SW.seqRun tok hO (by cbv <;> rfl) (by trivial) ?_
  refine OpsW.callP ((start_ok f hg.nb).res (r' := workV f (truthsV 0 true fun _ _ => .any) (f.k0 f.nb)) ?_) (by cbv <;> rfl) ?_
  · exact Eqv.agg (.cons (Eqv.refl _) (.cons (Eqv.refl _) (.cons (Eqv.refl _) (.cons Eqv.nil (.cons (Eqv.refl _) (.cons (Eqv.refl _) (.cons (Eqv.refl _) (.cons (Eqv.refl _) (.cons (Eqv.refl _) (.cons (Eqv.refl _) (.cons (Eqv.refl _) (.cons (Eqv.refl _) .nil))))))))))))
  generalize hK : f.k0 f.nb = K
  refine OpsW.run tok hO (by cbv <;> rfl) (by trivial) ?_
  refine OpsW.callP (play_ok f 0 true (fun _ _ => .any) K n ex fl (Below.isl fun _ _ h => absurd h (Nat.not_lt_zero _)) hg.nb (by omega) hn (fun s hs => ⟨(hg.spring s hs).1.1, by have := (hg.spring s hs).1.2; have := hg.nb; omega⟩) (fun i hi => by have := (hg.bed i hi).2.2; have := hg.nb; omega)) (by cbv <;> rfl) ?_
  generalize hW : playF f K fl = W
  refine OpsW.run tok hO (by cbv <;> rfl) (by trivial) ?_
  refine SW.seq (SW.runN tok hO 3 (by cbv <;> rfl) (by trivial) ?_)
  refine OpsW.cutArr tok (n := 8) (sz := 3) (u := f.nb) (by cbv <;> rfl) (by kernel_rfl) (by rfl) hg.nb (by show 0 + 8 * 3 ≤ 24; omega) ?_
  refine OpsW.freeze (fun _ => true) 3 (by rfl) ?_
  have hcl : ∀ h : Hp, h.get 1 = some (.cells none false (cells24 W)) → Pure Try.prog 69 [frz h (fun _ => true) 3 (.sl 1 0 f.nb 3 (f.nb == 8))] (.isl f.nb 3 false (flowC W)) := fun h hh =>
    Pure.eqv (clone_ok f.nb (f.nb == 8) W (by have := hg.nb; omega)) (.cons (frz_24 (fm := none) hg.nb rfl hh) .nil)
  refine OpsW.callP (hcl [(1, .cells none false (cells24 W)), (0, .cells none false [springsV f, bedsV f, looksV f])] rfl) (by rfl) ?_
  refine OpsW.run tok hO (by cbv <;> rfl) (by trivial) ?_
  refine SW.ret ⟨_, _, rfl, rfl, ?_⟩
  unfold FarmD.playL FarmD.playE
  rw [if_pos ⟨hc0, by rw [hF, hf]⟩, if_pos hc0, if_pos (by rw [hF, hf])]
  rw [show f.water fl = W from by rw [← hW, ← hK]; rfl]
  exact Eqv.refl _
end Go.Fz

/-
  Layer 1: BedPlays returns true. Own work of the verifier of watercress.
-/
namespace Go.Fz
open Go.Proofs
set_option maxRecDepth 100000

/-- What Play returns, in the statement's words. -/
theorem FarmD.play_bad (f : FarmD) (n : Nat) (fl : Nat → Int) (h : ¬ f.faultN = 0) : f.playL n fl = nl3 ∧ f.playE n fl = f.faultN ∧ f.proveT n fl = false := by
  refine ⟨?_, ?_, ?_⟩
  · unfold FarmD.playL; rw [f.check_eq, if_neg (fun k => h k.1)]
  · unfold FarmD.playE; rw [f.check_eq, if_neg h]
  · rw [f.proveT_eq]; simp [h]
theorem FarmD.play_off (f : FarmD) (n : Nat) (fl : Nat → Int) (h : f.faultN = 0) (hl : f.listedB n fl = false) : f.playL n fl = nl3 ∧ f.playE n fl = 2 := by
  refine ⟨?_, ?_⟩
  · unfold FarmD.playL; rw [f.fits_eq, hl, if_neg (fun k => absurd k.2 (by decide))]
  · unfold FarmD.playE; rw [f.check_eq, if_pos h, f.fits_eq, hl]; rfl
theorem FarmD.play_good (f : FarmD) (n : Nat) (fl : Nat → Int) (h : f.faultN = 0) (hl : f.listedB n fl = true) : f.playL n fl = .isl f.nb 3 false (flowC (f.water fl)) ∧ f.playE n fl = 0 := by
  refine ⟨?_, ?_⟩
  · unfold FarmD.playL; rw [f.fits_eq, hl, f.check_eq, if_pos ⟨h, rfl⟩]
  · unfold FarmD.playE; rw [f.check_eq, if_pos h, f.fits_eq, hl]; rfl

theorem intsV_below' (n : Nat) (ex : Bool) (fl : Nat → Int) (m : Nat) : Below m (intsV n ex fl) := Below.up (m := 0) (intsV_below n ex fl)

set_option maxHeartbeats 8000000 in
theorem bedPlays_ok (haw : Pure Try.prog 19 [] (.lit (.bool true))) (f : FarmD) (n : Nat) (ex : Bool) (fl : Nat → Int) : Pure Try.prog 3 [farmV f, intsV n ex fl] (.lit (.bool true)) := by
  obtain ⟨O, hO⟩ : ∃ O : Ar, O = std := ⟨_, rfl⟩
  refine pure_of_body tok 3 Try.func3 en3 rfl ⟨farmV_below f, intsV_below n ex fl, trivial⟩ Below.lit ?_
  refine SW.seqRun tok hO (by cbv <;> rfl) (by trivial) ?_
  refine SW.seq ?_
  refine SW.seqRun tok hO (by cbv <;> rfl) (by trivial) ?_
  have call := thin_ok f
  generalize hT : f.thinB = t at call
  refine OpsW.callP call (by cbv <;> rfl) ?_
  have hnot : O.not t = !t := by subst hO; rfl
  refine OpsW.run tok hO (by cbv <;> rfl) (by trivial) ?_
  refine OpsW.splitG (by cbv <;> rfl) (fun h1 => ?_) (fun h1 => ?_) <;> refine OpsW.run tok hO (by cbv <;> rfl) (by trivial) ?_
  · refine SW.cond (t := true) (by cbv <;> rfl) ?_
    refine SW.seqRun tok hO (by cbv <;> rfl) (by trivial) ?_
    refine OpsW.callP haw (by cbv <;> rfl) ?_
    refine OpsW.run tok hO (by cbv <;> rfl) (by trivial) ?_
    exact SW.ret ⟨_, _, rfl, rfl, Eqv.refl _⟩
  have ht : t = true := by have := hnot.symm.trans h1; simpa using this
  refine SW.condS (by cbv <;> rfl) (fun h2 => ?_) (fun h2 => SW.skip ?_)
  · refine SW.seqRun tok hO (by cbv <;> rfl) (by trivial) ?_
    refine OpsW.callP haw (by cbv <;> rfl) ?_
    refine OpsW.run tok hO (by cbv <;> rfl) (by trivial) ?_
    exact SW.ret ⟨_, _, rfl, rfl, Eqv.refl _⟩
  have hn8 : n ≤ 8 := by
    have : ¬ (8 : Int) < (n : Int) := by subst hO; simpa [std] using h2
    omega
  rw [ht] at hT
  have hsz : f.nb ≤ 10 ∧ f.ns ≤ 6 ∧ f.nl ≤ 7 := by
    simp only [FarmD.thinB, Bool.and_eq_true, decide_eq_true_eq] at hT; exact ⟨hT.1.1.1, hT.1.1.2, hT.1.2⟩
  have hs : f.small := ⟨by omega, by omega, by omega⟩
  have hfarm := farm_ok f hsz.1 hsz.2.1 hsz.2.2
  have hlist := list_ok n ex fl (by omega)
  have hplay := play20_ok f hs n false fl (by omega)
  have hprove := proveTruth_ok f hs n false fl (by omega)
  have hbad := f.play_bad n fl
  have hoff := f.play_off n fl
  have hgood := f.play_good n fl
  have hpt := f.proveT_eq n fl
  generalize f.playL n fl = L at hplay hbad hoff hgood
  generalize f.playE n fl = E at hplay hbad hoff hgood
  generalize f.proveT n fl = PT at hprove hbad hpt
  refine SW.seqRun tok hO (by cbv <;> rfl) (by trivial) ?_
  refine OpsW.callP hfarm (by cbv <;> rfl) ?_
  refine OpsW.run tok hO (by cbv <;> rfl) (by trivial) ?_
  refine OpsW.callP hlist (by cbv <;> rfl) ?_
  refine OpsW.run tok hO (by cbv <;> rfl) (by trivial) ?_
  refine OpsW.callP hplay (by cbv <;> rfl) ?_
  refine OpsW.run tok hO (by cbv <;> rfl) (by trivial) ?_
  refine SW.seqRun tok hO (by cbv <;> rfl) (by trivial) ?_
  refine OpsW.callP hfarm (by cbv <;> rfl) ?_
  refine OpsW.run tok hO (by cbv <;> rfl) (by trivial) ?_
  refine OpsW.callP hlist (by cbv <;> rfl) ?_
  refine OpsW.run tok hO (by cbv <;> rfl) (by trivial) ?_
  refine OpsW.callP hprove (by cbv <;> rfl) ?_
  refine OpsW.run tok hO (by cbv <;> rfl) (by trivial) ?_
  have hfault := fault24_ok f hs
  have hcheck := checkFarm_ok f hs
  rw [f.check_eq] at hcheck
  have htruth := fun hlb => isTruth_ok f hs n ex fl (by omega) hlb
  have hg : f.faultN = 0 → f.Good := fun h => good_of_check (f.check_eq.trans h)
  generalize f.faultN = F at hfault hcheck hbad hoff hgood hpt hg
  refine SW.seqRun tok hO (by cbv <;> rfl) (by trivial) ?_
  refine OpsW.callP hfault (by cbv <;> rfl) ?_
  refine OpsW.run tok hO (by cbv <;> rfl) (by trivial) ?_
  refine SW.seq ?_
  refine SW.seqRun tok hO (by cbv <;> rfl) (by trivial) ?_
  refine OpsW.callP hfarm (by cbv <;> rfl) ?_
  refine OpsW.run tok hO (by cbv <;> rfl) (by trivial) ?_
  refine OpsW.callP hcheck (by cbv <;> rfl) ?_
  refine OpsW.run tok hO (by cbv <;> rfl) (by trivial) ?_
  refine OpsW.splitG (by cbv <;> rfl) (fun h3 => ?_) (fun h3 => ?_)
  · exfalso; subst hO; simp [std] at h3
  refine OpsW.run tok hO (by cbv <;> rfl) (by trivial) ?_
  refine OpsW.splitG (by cbv <;> rfl) (fun h4 => ?_) (fun h4 => ?_) <;> refine OpsW.run tok hO (by cbv <;> rfl) (by trivial) ?_
  rotate_left
  · -- the farm is not valid
    have hF : ¬ F = 0 := by subst hO; simpa [std] using h4
    obtain ⟨rfl, rfl, rfl⟩ := hbad hF
    refine SW.condS (by cbv <;> rfl) (fun h5 => ?_) (fun h5 => SW.skip ?_)
    · exfalso; subst hO; simp [std] at h5
    refine SW.seq ?_
    refine SW.seqRun tok hO (by cbv <;> rfl) (by trivial) ?_
    refine OpsW.splitG (by cbv <;> rfl) (fun h6 => ?_) (fun h6 => ?_)
    · exfalso; subst hO; simp [std] at h6; exact hF h6
    refine OpsW.run tok hO (by cbv <;> rfl) (by trivial) ?_
    refine SW.cond (t := false) (by cbv <;> rfl) (SW.skip ?_)
    refine SW.seq ?_
    refine SW.seqRun tok hO (by cbv <;> rfl) (by trivial) ?_
    refine SW.condS (by cbv <;> rfl) (fun h7 => ?_) (fun h7 => SW.skip ?_)
    rotate_left
    · exfalso; subst hO; simp [std] at h7; exact hF h7
    refine SW.seqRun tok hO (by cbv <;> rfl) (by trivial) ?_
    refine OpsW.splitG (by cbv <;> rfl) (fun h8 => ?_) (fun h8 => ?_)
    rotate_left
    · exfalso; subst hO; simp [std] at h8
    refine OpsW.run tok hO (by cbv <;> rfl) (by trivial) ?_
    refine OpsW.splitG (by cbv <;> rfl) (fun h9 => ?_) (fun h9 => ?_)
    rotate_left
    · exfalso; subst hO; simp [std] at h9
    refine OpsW.run tok hO (by cbv <;> rfl) (by trivial) ?_
    refine OpsW.callP haw (by cbv <;> rfl) ?_
    refine OpsW.run tok hO (by cbv <;> rfl) (by trivial) ?_
    exact SW.ret ⟨_, _, rfl, rfl, Eqv.refl _⟩
  · have hF : F = 0 := by subst hO; simpa [std] using h4
    subst hF
    have g := hg rfl
    have htr := htruth fun i hi => (g.look i hi).1
    have hpt' : PT = f.truthN n fl := by rw [hpt]; rfl
    rw [← hpt'] at htr
    refine OpsW.callP htr (by cbv <;> rfl) ?_
    refine OpsW.run tok hO (by cbv <;> rfl) (by trivial) ?_
    refine SW.condS (by cbv <;> rfl) (fun h5 => ?_) (fun h5 => SW.skip ?_)
    · exfalso; subst hO; simp [std] at h5
    refine SW.seq ?_
    refine SW.seqRun tok hO (by cbv <;> rfl) (by trivial) ?_
    refine OpsW.splitG (by cbv <;> rfl) (fun h6 => ?_) (fun h6 => ?_)
    rotate_left
    · exfalso; subst hO; simp [std] at h6
    refine OpsW.run tok hO (by cbv <;> rfl) (by trivial) ?_
    have hlc := isListed_ok f hs n ex fl (by omega)
    generalize hLB : f.listedB n fl = LB at hlc
    have hnl : O.not LB = !LB := by subst hO; rfl
    refine OpsW.callP hlc (by cbv <;> rfl) ?_
    refine OpsW.run tok hO (by cbv <;> rfl) (by trivial) ?_
    refine SW.condS (by cbv <;> rfl) (fun h7 => ?_) (fun h7 => SW.skip ?_)
    · -- the list has not one number of each range
      have hl : LB = false := by have := hnl.symm.trans h7; simpa using this
      obtain ⟨rfl, rfl⟩ := hoff rfl (by rw [hLB, hl])
      refine SW.run tok hO (by cbv <;> rfl) (by trivial) ?_
      refine SW.seq ?_
      refine SW.seqRun tok hO (by cbv <;> rfl) (by trivial) ?_
      refine SW.condS (by cbv <;> rfl) (fun h8 => ?_) (fun h8 => SW.skip ?_)
      rotate_left
      · exfalso; subst hO; simp [std] at h8
      refine SW.seqRun tok hO (by cbv <;> rfl) (by trivial) ?_
      refine OpsW.splitG (by cbv <;> rfl) (fun h9 => ?_) (fun h9 => ?_)
      rotate_left
      · exfalso; subst hO; simp [std] at h9
      refine OpsW.run tok hO (by cbv <;> rfl) (by trivial) ?_
      refine OpsW.splitG (by cbv <;> rfl) (fun h10 => ?_) (fun h10 => ?_)
      rotate_left
      · exfalso; subst hO; simp [std] at h10
      refine OpsW.run tok hO (by cbv <;> rfl) (by trivial) ?_
      refine OpsW.callP haw (by cbv <;> rfl) ?_
      refine OpsW.run tok hO (by cbv <;> rfl) (by trivial) ?_
      exact SW.ret ⟨_, _, rfl, rfl, Eqv.refl _⟩
    -- the water of all beds
    have hl : LB = true := by have := hnl.symm.trans h7; simpa using this
    have hlist' : f.listedB n fl = true := by rw [hLB, hl]
    obtain ⟨rfl, rfl⟩ := hgood rfl hlist'
    have hfl := FarmD.fl_of_listed g hlist'
    have hns : f.ns ≤ n := by
      have := hlist'
      simp only [FarmD.listedB, Bool.and_eq_true, decide_eq_true_eq] at this; omega
    have hW := f.water_eq g fl hfl
    generalize f.water fl = W at hW
    refine SW.seq ?_
    refine SW.seqRun tok hO (by cbv <;> rfl) (by trivial) ?_
    refine SW.condS (by cbv <;> rfl) (fun h8 => ?_) (fun h8 => SW.skip ?_)
    · exfalso; subst hO; simp [std] at h8
    refine SW.seq ?_
    refine SW.seqRun tok hO (by cbv <;> rfl) (by trivial) ?_
    refine OpsW.splitG (by cbv <;> rfl) (fun h9 => ?_) (fun h9 => ?_)
    · exfalso; subst hO; simp [std] at h9
    refine OpsW.run tok hO (by cbv <;> rfl) (by trivial) ?_
    refine SW.condS (by cbv <;> rfl) (fun h10 => ?_) (fun h10 => SW.skip ?_)
    · exfalso; subst hO; simp [std] at h10
    refine SW.seq ?_
    refine SW.seqRun tok hO (by cbv <;> rfl) (by trivial) ?_
    refine (SW.block (SW.loopF (fun i : Nat => ⟨⟨105, getT [(1, intsV n ex fl), (2, .ptr 0 0), (5, .isl f.nb 3 false (flowC W)), (9, iV i)]⟩, []⟩) (fun _ => ⟨[(0, .cells none false [springsV f, bedsV f, looksV f])], 1⟩) (fun i => f.nb - i) (fun i => i ≤ f.nb) 0
      (fun _ => rfl) (Nat.zero_le _) (Weak.by rfl rfl (by simp) (Nat.le_refl _) (Nat.le_refl _) ⟨⟨rfl, .inl rfl⟩, ⟨rfl, .inl rfl⟩, ⟨rfl, .inl rfl⟩, ⟨rfl, .inl rfl⟩, trivial⟩ ⟨⟨rfl, by omega, .inl rfl⟩, trivial⟩) fun i hi => ?_))
    refine SW.seq ?_
    refine SW.seqRun tok hO (by cbv <;> rfl) (by trivial) ?_
    refine SW.condS (by cbv <;> rfl) (fun h11 => SW.skip ?_) (fun h11 => SW.exit ?_)
    · have hlt : i < f.nb := by subst hO; simpa [std] using h11
      have h0 : (0 : Int) ≤ Int.ofNat i := Int.natCast_nonneg i
      have hnat : O.nat (Int.ofNat i) = i := by subst hO; rfl
      obtain ⟨hw0, hw1, hw2⟩ := hW i hlt
      have hat := at_ok f hs n ex fl (by omega) hns i hlt
      rw [show minI (f.waN fl i) (f.notch i) = f.downN fl i from rfl] at hat
      generalize f.waN fl i = wa at hat hw0 hw2
      generalize f.downN fl i = dn at hat hw1 hw2
      unfold atV at hat
      generalize sub64 wa dn = ov at hat hw2
      refine SW.seq (SW.block ?_)
      refine SW.seqRun tok hO (by cbv <;> rfl) (by trivial) ?_
      refine OpsW.callP hat (by cbv <;> rfl) ?_
      refine OpsW.run tok hO (by cbv <;> rfl) (by trivial) ?_
      refine SW.seqRunD tok mixed hO (by rfl) (by cbv <;> rfl) ?_ ?_
      · exact ⟨h0, Int.ofNat_lt.2 hlt⟩
      refine AnyE.dec tok hO (by rfl) (by cbv <;> rfl) (by trivial) (fun h12 => ?_) (fun h12 => ?_)
      · exfalso
        subst hO
        revert h12
        rw [show std.nat (Int.ofNat i) = i from rfl, hw0, hw1, hw2]
        simp [std]
      · refine AnyE.done (by rfl) ?_
        refine SW.cond (t := false) (by cbv <;> rfl) (SW.skip ?_)
        refine SW.run tok hO (by cbv <;> rfl) (by trivial) ?_
        exact ⟨i + 1, by omega, by omega, Weak.by rfl rfl (by simp) (Nat.le_refl _) (by show 1 ≤ 2; omega) ⟨⟨rfl, .inr (intsV_below' n ex fl 1)⟩, ⟨rfl, .inr (Below.ptr (by omega))⟩, ⟨rfl, .inr (Below.up (m := 0) (Below.isl fun _ _ _ _ => Below.lit))⟩, ⟨inc_ok hO (by omega), .inr Below.lit⟩, trivial⟩ ⟨⟨rfl, by omega, .inr ⟨fun a ha => Below.up (m := 0) (farmC_below f a ha), fun _ h => by cases h⟩⟩, trivial⟩⟩
    · have hin : i = f.nb := by
        have : f.nb ≤ i := by subst hO; simpa [std] using h11
        omega
      refine SW.seqRun tok hO (by cbv <;> rfl) (by trivial) ?_
      refine OpsW.callP haw (by cbv <;> rfl) ?_
      refine OpsW.run tok hO (by cbv <;> rfl) (by trivial) ?_
      exact SW.ret ⟨_, _, rfl, rfl, Eqv.refl _⟩
end Go.Fz
