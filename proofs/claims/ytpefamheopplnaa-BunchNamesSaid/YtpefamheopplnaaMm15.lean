/- Own work of the verifier of watercress: FzC3, FzC5, FzC4, FzC6, FzC7, FzC8, FzC9. -/
import Derived.Test.YtpefamheopplnaaMm14
import Derived.Maps.Keyed
import Derived.Maps.RangeRun
import Derived.DeepKeys4
import Derived.Test.YtpefamheopplnaaMm10
set_option linter.unusedVariables false
set_option linter.unusedSimpArgs false
namespace Go.Fz
variable {P : Program} {T : Ti}
inductive RenX (ρ : Nat → Nat) (n : Nat) : AObj → AObj → Prop
  | base {o2 o1 : AObj} (h : RenO ρ n o2 o1) : RenX ρ n o2 o1
  | map {es : List (AV × AV × Nat)} {clock : Nat} (h : ∀ x ∈ es, Below 0 x.1 ∧ Below 0 x.2.1) : RenX ρ n (.map es clock) (.map es clock)
theorem RenX.own {ρ : Nat → Nat} {n : Nat} {o2 o1 : AObj} (h : RenX ρ n o2 o1) : o2.own = o1.own := by
  cases h with
  | base h => exact h.own
  | map _ => rfl
theorem RenX.fam {ρ : Nat → Nat} {n : Nat} {o2 o1 : AObj} (h : RenX ρ n o2 o1) : o2.fam = none := by
  cases h with
  | base h => cases h <;> rfl
  | map _ => rfl
theorem ObjR.renX {φ : Fi} {w : World} {ρ : Nat → Nat} {n id : Nat} {o2 o1 : AObj} (h : RenX ρ n o2 o1) (ho : ObjR φ w (ρ id) o1) : ObjR (renF φ ρ n) w id o2 := by
  cases h with
  | base h => exact ho.ren h
  | map h =>
    obtain ⟨ces, h1, h2, h3⟩ := ho
    refine ⟨ces, h1, h2, fun i x hx => ?_⟩
    obtain ⟨e, k1, k2, k3, k4⟩ := h3 i x hx
    obtain ⟨b1, b2⟩ := h x (List.mem_of_getElem? hx)
    exact ⟨e, k1, RenV.closed b1 _ _ k2, RenV.closed b2 _ _ k3, k4⟩
structure WeakX (ρ : Nat → Nat) (st1 st2 : St) : Prop where
  obj : ∀ id o, st2.h.get id = some o → id < st2.n ∧ ∃ o1, st1.h.get (ρ id) = some o1 ∧ RenX ρ st2.n o o1
  sep : ∀ i j oi oj, st2.h.get i = some oi → st2.h.get j = some oj → i ≠ j → ∀ pi pj, st1.h.get (ρ i) = some pi → st1.h.get (ρ j) = some pj → ρ i ≠ ρ j ∧ ¬ Mates pi pj
theorem WeakX.ok {ρ : Nat → Nat} {st1 st2 : St} (hw : WeakX ρ st1 st2) {φ : Fi} {w : World} (hr : Rel φ st1 w) : Rel (renF φ ρ st2.n) st2 w ∧ Fr φ st1 w (renF φ ρ st2.n) st2 w := by
  have hown : ∀ k, Owns (renF φ ρ st2.n) st2 k → Owns φ st1 k := fun k ⟨id, o, h, ho, hb⟩ => by
    obtain ⟨_, o1, h1, h2⟩ := hw.obj id o h
    exact ⟨ρ id, o1, h1, by rw [← h2.own]; exact ho, hb⟩
  refine ⟨⟨rfl, fun id o h => (hw.obj id o h).1, fun id o h => ?_, fun id o h => ?_, fun i j oi oj hi hj hij hio hb => ?_, fun id o f h hf => ?_, fun b c hb => ?_⟩,
    ⟨rfl, rfl, rfl, Nat.le_refl _, fun _ _ _ => rfl, fun k hk => .inl (hown k hk), fun b c hb => .inl hb⟩⟩
  · obtain ⟨_, o1, h1, _⟩ := hw.obj id o h
    exact hr.blk _ _ h1
  · obtain ⟨_, o1, h1, h2⟩ := hw.obj id o h
    exact (hr.obj _ _ h1).renX h2
  · exfalso
    obtain ⟨_, pi, h1, h2⟩ := hw.obj i oi hi
    obtain ⟨_, pj, h3, h4⟩ := hw.obj j oj hj
    obtain ⟨k1, k2⟩ := hw.sep i j oi oj hi hj hij pi pj h1 h3
    exact k2 (hr.sep (ρ i) (ρ j) pi pj h1 h3 k1 (by rw [← h2.own]; exact hio) hb).1
  · obtain ⟨_, o1, h1, h2⟩ := hw.obj id o h
    rw [h2.fam] at hf; cases hf
  · obtain ⟨h1, h2, h3⟩ := hr.froz b c hb
    refine ⟨h1, h2, fun id o h ho => ?_⟩
    obtain ⟨_, o1, h4, h5⟩ := hw.obj id o h
    exact h3 _ _ h4 (by rw [← h5.own]; exact ho)
def padF (φ : Fi) (f : Nat → Loc) (n : Nat) : Fi := ⟨fun j => if j < φ.n then φ.f j else f j, n, φ.z⟩
theorem padF_ext (φ : Fi) (f : Nat → Loc) {n : Nat} (h : φ.n ≤ n) : Ext φ (padF φ f n) := ⟨h, fun id hid => if_pos hid, fun _ _ hb => hb⟩
theorem Rel.pad {φ : Fi} {st : St} {w : World} (hr : Rel φ st w) (f : Nat → Loc) {n : Nat} (h : st.n ≤ n) : Rel (padF φ f n) ⟨st.h, n⟩ w ∧ Fr φ st w (padF φ f n) ⟨st.h, n⟩ w := by
  have he := padF_ext φ f (n := n) (by rw [hr.n]; exact h)
  have hf : ∀ id o, st.h.get id = some o → (padF φ f n).f id = φ.f id := fun id o ho => he.f id (by rw [hr.n]; exact hr.lt id o ho)
  refine ⟨⟨rfl, fun id o ho => Nat.lt_of_lt_of_le (hr.lt id o ho) h, fun id o ho => by rw [hf id o ho]; exact hr.blk id o ho, fun id o ho => (hr.obj id o ho).same he (by rw [hr.n]; exact hr.lt id o ho) rfl, fun i j oi oj hi hj hij hio hb => ?_, fun id o g ho hg => Nat.lt_of_lt_of_le (hr.fam id o g ho hg) h, fun b c hb => ?_⟩,
    ⟨rfl, rfl, rfl, Nat.le_refl _, fun _ _ _ => rfl, fun k ⟨id, o, ho, hown, hb⟩ => .inl ⟨id, o, ho, hown, by rw [← hf id o ho]; exact hb⟩, fun b c hb => .inl hb⟩⟩
  · rw [hf i oi hi, hf j oj hj] at *
    exact hr.sep i j oi oj hi hj hij hio hb
  · obtain ⟨h1, h2, h3⟩ := hr.froz b c hb
    exact ⟨h1, h2, fun id o ho hown => by rw [hf id o ho]; exact h3 id o ho hown⟩
structure Back (ρ : Nat → Nat) (st1 st2 : St) (k : AV → St → Prop) (v : AV) (st2' : St) : Prop where
  ex : ∃ st1' σ, k v st1' ∧ Below 0 v ∧ st1.n ≤ st1'.n ∧ WeakX σ ⟨st2'.h, st2'.n + st1'.n⟩ st1' ∧ ∀ id, id < st1.n → (σ id = id ∧ ρ id = id ∧ id < st2.n) ∨ σ id = st2'.n + id
theorem CPost.canon {φ : Fi} {st1 st2 : St} {w : World} {ρ : Nat → Nat} (hr : Rel φ st1 w) (hw : WeakX ρ st1 st2) {k2 k : AV → St → Prop} {e : Ending} {w' : World} (h : CPost (renF φ ρ st2.n) st2 w k2 e w') (hk : ∀ v st2', k2 v st2' → Back ρ st1 st2 k v st2') : CPost φ st1 w k e w' := by
  obtain ⟨v, cv, st2', φ2, rfl, hkv, hv, he, hr2, hf⟩ := h
  obtain ⟨st1', σ, hk1, hbv, hn, hx, hσ⟩ := (hk v st2' hkv).ex
  obtain ⟨p1, p2⟩ := hr2.pad (fun j => φ.f (j - st2'.n)) (n := st2'.n + st1'.n) (Nat.le_add_right _ _)
  obtain ⟨q1, q2⟩ := hx.ok p1
  obtain ⟨_, z2⟩ := hw.ok hr
  have hn2 : φ2.n = st2'.n := hr2.n
  refine ⟨v, cv, st1', renF (padF φ2 (fun j => φ.f (j - st2'.n)) (st2'.n + st1'.n)) σ st1'.n, rfl, hk1, ?_, ⟨?_, fun id hid => ?_, fun b c hb => he.z b c hb⟩, q1, (z2.trans hf).trans (p2.trans q2)⟩
  · exact VR.mono (φ := ⟨φ2.f, 0, φ2.z⟩) (φ' := renF (padF φ2 (fun j => φ.f (j - st2'.n)) (st2'.n + st1'.n)) σ st1'.n) ⟨Nat.zero_le _, fun id hid => absurd hid (Nat.not_lt_zero id), fun b c hb => hb⟩ (hbv φ2 cv hv)
  · show φ.n ≤ st1'.n
    rw [hr.n]; exact hn
  · show (if σ id < φ2.n then φ2.f (σ id) else φ.f (σ id - st2'.n)) = φ.f id
    rcases hσ id (by rw [← hr.n]; exact hid) with ⟨h1, h2, h3⟩ | h1
    · rw [h1]
      have hlt : id < φ2.n := Nat.lt_of_lt_of_le h3 he.n
      rw [if_pos hlt, he.f id h3]
      show φ.f (ρ id) = φ.f id
      rw [h2]
    · rw [h1]
      rw [if_neg (by omega), Nat.add_sub_cancel_left]
theorem YieldW.canon {y : Nat} {args : List AV} {st1 st2 : St} {ρ : Nat → Nat} (hy : ρ y = y) (hy2 : y < st2.n) (hargs : ∀ a ∈ args, Below 0 a) (hw : WeakX ρ st1 st2) {k2 k : AV → St → Prop} (h : YieldW P y args st2 k2)
    (hk : ∀ v st2', k2 v st2' → Back ρ st1 st2 k v st2') : YieldW P y args st1 k := fun φ w cargs n hr _ ha => by
  obtain ⟨r1, _⟩ := hw.ok hr
  have ha' : VRL (renF φ ρ st2.n) args cargs := VRL.mono (φ := ⟨φ.f, 0, φ.z⟩) (φ' := renF φ ρ st2.n) ⟨Nat.zero_le _, fun id hid => absurd hid (Nat.not_lt_zero id), fun b c hb => hb⟩ (Below.list hargs ha)
  obtain ⟨fn, tmps, assign, body, h4, h5⟩ := h _ w cargs n r1 hy2 ha'
  have e : (renF φ ρ st2.n).f y = φ.f y := by show φ.f (ρ y) = φ.f y; rw [hy]
  rw [e] at h4 h5
  exact ⟨fn, tmps, assign, body, h4, h5.mono fun _ _ hc => hc.canon hr hw hk⟩
theorem CallW.pad {g : FuncId} {args : List AV} {st : St} {n : Nat} {k : AV → St → Prop} (hn : st.n ≤ n) (h : CallW P g args ⟨st.h, n⟩ k) : CallW P g args st k := fun φ w cargs m hr ha => by
  obtain ⟨p1, p2⟩ := hr.pad φ.f hn
  have he := padF_ext φ φ.f (n := n) (by rw [hr.n]; exact hn)
  refine (h _ w cargs m p1 (ha.mono he)).mono fun e w' hp => ?_
  obtain ⟨v, cv, st', φ', rfl, hk, hv, he', hr', hf⟩ := hp
  exact ⟨v, cv, st', φ', rfl, hk, hv, he.trans he', hr', p2.trans hf⟩
theorem WeakX.of {ρ : Nat → Nat} {st1 : St} {h2 : Hp} {n2 : Nat} (F : Nat → Option Nat) (hF : ∀ i j f, F i = some f → F j = some f → i = j)
    (hinj : ∀ p ∈ h2, ∀ q ∈ h2, ρ p.1 = ρ q.1 → p.1 = q.1) (obj : AllP (fun p => p.1 < n2 ∧ ∃ o1, st1.h.get (ρ p.1) = some o1 ∧ RenX ρ n2 p.2 o1 ∧ o1.fam = F p.1) h2) : WeakX ρ st1 ⟨h2, n2⟩ := by
  have ho := obj.ok
  refine ⟨fun id o h => ?_, fun i j oi oj hi hj hij pi pj h1 h2 => ⟨fun h => hij ?_, fun ⟨f, k1, k2⟩ => ?_⟩⟩
  · obtain ⟨h3, o1, h4, h5, _⟩ := ho _ (Hp.mem_of_get h)
    exact ⟨h3, o1, h4, h5⟩
  · exact hinj _ (Hp.mem_of_get hi) _ (Hp.mem_of_get hj) h
  · obtain ⟨_, o1, h3, _, h4⟩ := ho _ (Hp.mem_of_get hi)
    obtain ⟨_, o2, h5, _, h6⟩ := ho _ (Hp.mem_of_get hj)
    rw [show ρ (i, oi).1 = ρ i from rfl, h1] at h3
    rw [show ρ (j, oj).1 = ρ j from rfl, h2] at h5
    cases h3; cases h5
    exact hij (hF i j f (h4.symm.trans k1) (h6.symm.trans k2))
end Go.Fz
namespace Go.Fz
open Go.Proofs
set_option maxRecDepth 100000
section
variable {P : Program} {T : Ti}
def mkAt (ops : Array Oper) (i : Nat) (f : Fm) : Option (TypeId × AV × AV) := match ops[i]? with
  | none => none
  | some o => match wantA ops f.ts o with
    | some true => match o.op with
      | .makeSlice t l c => some (t, Operand.av f.ts l, Operand.av f.ts c)
      | _ => none
    | _ => none
def intsB (T : Ti) (t : TypeId) : Bool := match T t with
  | some i => match i.desc with
    | .slice e => match T e with
      | some j => Nat.beq j.size 1 && Nat.ble j.bytes 65536 && (match j.zero with | [.int .i64 0] => true | _ => false)
      | none => false
    | _ => false
  | none => false
theorem zeros_flat {j : TI} (hz : j.zero = [.int .i64 0]) (n : Nat) : zerosA j (n * 1) = flatG 1 (intC fun _ => 0) n := by
  apply List.ext_getElem?
  intro q
  unfold zerosA
  rw [hz, Nat.mul_one]
  by_cases hq : q < n
  · have h2 := flatG_get 1 (intC fun _ => 0) n q 0 hq (by omega)
    rw [Nat.mul_one, Nat.add_zero] at h2
    rw [h2]
    simp [hq, Nat.mod_one, intC, iV]
  · rw [List.getElem?_eq_none (by simp; omega), List.getElem?_eq_none (by rw [flatG_length]; omega)]
theorem OpsW.mkInts (hT : TOk P T) {rd : Option Nat} {ops : Array Oper} {K : Fm → St → Prop} {f : Fm} {st : St} {i : Nat} {l : List Nat} {t N : Nat} (hx : mkAt ops i f = some (t, .lit (.int .i64 (Int.ofNat N)), .lit (.int .i64 (Int.ofNat N)))) (hb : intsB T t = true) (hN : N ≤ 65536)
    (h : OpsW P rd ops l K (putAt ops i f (.sl st.n 0 N 1 true)) (st.push (.cells none false (flatG 1 (intC fun _ => 0) N)))) : OpsW P rd ops (i :: l) K f st := by
  unfold mkAt at hx
  split at hx
  · cases hx
  · rename_i o ho
    split at hx
    · rename_i hw
      split at hx
      · rename_i t' a b hop
        simp only [Option.some.injEq, Prod.mk.injEq] at hx
        obtain ⟨rfl, e2, e3⟩ := hx
        have hput : ∀ v, putAt ops i f v = f.put o.dst v := fun v => by simp [putAt, ho]
        rw [hput] at h
        unfold intsB at hb
        split at hb
        · rename_i ti hti
          split at hb
          · rename_i e he
            split at hb
            · rename_i j hj
              simp only [Bool.and_eq_true] at hb
              obtain ⟨⟨b1, b2⟩, b3⟩ := hb
              have hz : j.zero = [.int .i64 0] := by
                split at b3
                · assumption
                · cases b3
              have hs := Nat.eq_of_beq_eq_true b1
              refine OpsW.fresh hT ho hw ?_ h
              simp only [evF, hop, e2, e3, hti, he, hj]
              have h0 : (0 : Int) ≤ Int.ofNat N := Int.natCast_nonneg N
              rw [if_pos ⟨h0, Int.le_refl _, Int.ofNat_le.2 hN, Nat.le_of_ble_eq_true b2, by omega, by rw [hz, hs]; rfl⟩, hs]
              show some (AV.sl st.n 0 N 1 (Int.ofNat N == Int.ofNat N), zerosA j (N * 1)) = _
              rw [zeros_flat hz]; simp
            · cases hb
          · cases hb
        · cases hb
      · cases hx
    · cases hx
end
section
variable {α : Type}
def chB (d : DayD) (lp : AObj) (h0 : Hp) : Hp := (6, lp) :: (5, .dfr) :: (4, .cells none false (dayC d)) :: h0
def chMid (d : DayD) (NN : Nat) (lp : AObj) (h0 : Hp) (e : Exit) (fm : Fm) (st : St) : Prop := e = .normal ∧ ∃ g, fm = ⟨⟨18, g⟩, []⟩ ∧ g 2 = .ptr 49 0 ∧
  ((g 3 = .ptr 50 0 ∧ g 4 = .ptr 51 0 ∧ st = ⟨(51, .cells none false [iV d.nw]) :: (50, .cells none false [.isl NN 2 false (rngC d.ulo d.uhi)]) :: (49, .cells none false [.yld 6]) :: chB d lp h0, 52⟩) ∨
   (g 3 = .ptr 51 0 ∧ g 4 = .ptr 50 0 ∧ st = ⟨(51, .cells none false [.isl NN 2 false (rngC d.ulo d.uhi)]) :: (50, .cells none false [iV d.nw]) :: (49, .cells none false [.yld 6]) :: chB d lp h0, 52⟩))
theorem unk_in {d : DayD} (g : d.Good) : ∀ m, m < d.nw + d.nl → 0 ≤ d.ulo m ∧ d.ulo m ≤ d.uhi m ∧ d.uhi m ≤ 5000 := fun i hi => by
  unfold DayD.ulo DayD.uhi
  by_cases hc : i < d.nw
  · have := g.wom i hc
    simp only [hc, if_true]; omega
  · have := g.lot (i - d.nw) (by omega)
    simp only [hc, if_false]; omega
set_option maxHeartbeats 8000000 in
theorem choices1_ok (ok : α → Prop) (K : α → Hp → Nat → Prop) (next : α → (Nat → Int) → α) (d : DayD) (gd : d.Good) (lp : AObj) (h0 : Hp) (a0 : α)
    (hid : ∀ a h n, K a h n → 49 ≤ n ∧ ∀ id o, h.get id = some o → id < n ∧ (id < 49 ∨ 55 ≤ id)) (hK : K a0 (chB d lp h0) 55) (hall : allE ok next (d.nw + d.nl) d.ulo d.uhi (d.nw + d.nl) 0 (fun _ => 0) a0)
    (step : ∀ nums a h n, (∀ m, m < d.nw + d.nl → d.ulo m ≤ nums m ∧ nums m ≤ d.uhi m) → ok a → K a h n → YieldW Try.prog 6 [truE (cutF (d.nw + d.nl) nums) d.nw d.nl] ⟨chH 6 (d.nw + d.nl) d.nw d.ulo d.uhi (flatG 1 (intC nums) (d.nw + d.nl)) h, n⟩ (chQ K (fun _ _ => False) 6 (d.nw + d.nl) d.nw d.ulo d.uhi (fun f => f = nums) (next a (cutF (d.nw + d.nl) nums))))
    (steps : ∀ nums a h n, (∀ m, m < d.nw + d.nl → d.ulo m ≤ nums m ∧ nums m ≤ d.uhi m) → ok a → K a h n → YieldW Try.prog 6 [truE (cutF (d.nw + d.nl) nums) d.nw d.nl] ⟨chHs 6 (d.nw + d.nl) d.nw d.ulo d.uhi (flatG 1 (intC nums) (d.nw + d.nl)) h, n⟩ (chQs K (fun _ _ => False) 6 (d.nw + d.nl) d.nw d.ulo d.uhi (fun f => f = nums) (next a (cutF (d.nw + d.nl) nums)))) :
    CallW Try.prog 122 [.yld 6, .ptr 4 0] ⟨chB d lp h0, 7⟩ (fun _ st' => ∃ h n, st' = ⟨h, n⟩ ∧ K (foldE next (d.nw + d.nl) d.ulo d.uhi (d.nw + d.nl) 0 (fun _ => 0) a0) h n) := by
  obtain ⟨O, hO⟩ : ∃ O : Ar, O = std := ⟨_, rfl⟩
  have hnw := gd.nw
  have hnl := gd.nl
  have hpos := gd.pos
  have hub := unk_in gd
  have hN8 : d.nw + d.nl - d.nw = d.nl := by omega
  refine CallW.pad (n := 49) (by show 7 ≤ 49; omega) ?_
  refine CallW.weak (k1 := fun _ st' => ∃ R h n, (∀ id o, Hp.get R id = some o → 49 ≤ id ∧ id < 55) ∧ st' = ⟨R ++ h, n⟩ ∧ K (foldE next (d.nw + d.nl) d.ulo d.uhi (d.nw + d.nl) 0 (fun _ => 0) a0) h n ∧ 49 ≤ n) ?_ (fun v st1 ⟨R, h, n, hR, hs, hk, hn⟩ => .inr ⟨.any, ⟨h, n⟩, ⟨.inl rfl, hn, by rw [hs]; exact Nat.le_refl _, fun id o ho => ?_⟩, h, n, rfl, hk⟩)
  rotate_left
  · obtain ⟨k1, k2⟩ := (hid _ h n hk).2 id o ho
    refine ⟨?_, k1, .inl (by rw [hs])⟩
    rw [hs]
    show Hp.get (R ++ h) id = some o
    rw [Hp.get_app]
    cases hg : Hp.get R id with
    | none => exact ho
    | some o' => have := hR id o' hg; omega
  refine callW_of_body tok Try.func122 rfl ?_
  have hunk := unknown_ok' d hpos hnw hnl
  obtain ⟨NN, hNN⟩ : ∃ NN, d.nw + d.nl = NN := ⟨_, rfl⟩
  rw [hNN] at hunk
  refine SW.seqRun tok hO (by cbv <;> rfl) (by trivial) ?_
  refine SW.seq (SW.mono (Q := chMid d NN lp h0) ?_ ?_)
  · refine SW.runD tok mixed hO (by kernel_rfl) (by cbv <;> rfl) (by trivial) ?_
    refine AnyE.many [1, 5, 6] (by cbv <;> rfl) (by rfl) ⟨?_, ?_, ?_, trivial⟩
    · refine PickE.callQ hunk (by cbv <;> rfl) (by cbv <;> rfl) ?_ ?_
      · exact (by repeat (first | exact trivial | refine And.intro (by first | exact lv_of hO (by cbv <;> rfl) (by trivial) | (cbv <;> rfl)) ?_))
      refine AnyE.run tok hO (by rfl) (by cbv <;> rfl) (by trivial) ?_
      refine AnyE.many [5, 6] (by cbv <;> rfl) (by rfl) ⟨?_, ?_, trivial⟩
      · refine PickE.eff tok hO (by cbv <;> rfl) (by cbv <;> rfl) (by trivial) ?_ ?_
        · exact (by repeat (first | exact trivial | refine And.intro (by first | exact lv_of hO (by cbv <;> rfl) (by trivial) | (cbv <;> rfl)) ?_))
        refine AnyE.run tok hO (by rfl) (by cbv <;> rfl) (by trivial) ?_
        refine AnyE.effK tok hO (by cbv <;> rfl) (by cbv <;> rfl) (by trivial) ?_ ?_
        · exact (by repeat (first | exact trivial | refine And.intro (by first | exact lv_of hO (by cbv <;> rfl) (by trivial) | (cbv <;> rfl)) ?_))
        refine AnyE.run tok hO (by rfl) (by cbv <;> rfl) (by trivial) ?_
        refine AnyE.effK tok hO (by cbv <;> rfl) (by cbv <;> rfl) (by trivial) ?_ ?_
        · exact (by repeat (first | exact trivial | refine And.intro (by first | exact lv_of hO (by cbv <;> rfl) (by trivial) | (cbv <;> rfl)) ?_))
        refine AnyE.run tok hO (by rfl) (by cbv <;> rfl) (by trivial) ?_
        refine AnyE.effK tok hO (by cbv <;> rfl) (by cbv <;> rfl) (by trivial) ?_ ?_
        · exact (by repeat (first | exact trivial | refine And.intro (by first | exact lv_of hO (by cbv <;> rfl) (by trivial) | (cbv <;> rfl)) ?_))
        refine AnyE.run tok hO (by rfl) (by cbv <;> rfl) (by trivial) ?_
        exact ⟨rfl, _, rfl, rfl, .inl ⟨rfl, rfl, rfl⟩⟩
      · refine PickE.eff tok hO (by cbv <;> rfl) (by cbv <;> rfl) (by trivial) ?_ ?_
        · exact (by repeat (first | exact trivial | refine And.intro (by first | exact lv_of hO (by cbv <;> rfl) (by trivial) | (cbv <;> rfl)) ?_))
        refine AnyE.run tok hO (by rfl) (by cbv <;> rfl) (by trivial) ?_
        refine AnyE.effK tok hO (by cbv <;> rfl) (by cbv <;> rfl) (by trivial) ?_ ?_
        · exact (by repeat (first | exact trivial | refine And.intro (by first | exact lv_of hO (by cbv <;> rfl) (by trivial) | (cbv <;> rfl)) ?_))
        refine AnyE.run tok hO (by rfl) (by cbv <;> rfl) (by trivial) ?_
        refine AnyE.effK tok hO (by cbv <;> rfl) (by cbv <;> rfl) (by trivial) ?_ ?_
        · exact (by repeat (first | exact trivial | refine And.intro (by first | exact lv_of hO (by cbv <;> rfl) (by trivial) | (cbv <;> rfl)) ?_))
        refine AnyE.run tok hO (by rfl) (by cbv <;> rfl) (by trivial) ?_
        refine AnyE.effK tok hO (by cbv <;> rfl) (by cbv <;> rfl) (by trivial) ?_ ?_
        · exact (by repeat (first | exact trivial | refine And.intro (by first | exact lv_of hO (by cbv <;> rfl) (by trivial) | (cbv <;> rfl)) ?_))
        refine AnyE.run tok hO (by rfl) (by cbv <;> rfl) (by trivial) ?_
        exact ⟨rfl, _, rfl, rfl, .inr ⟨rfl, rfl, rfl⟩⟩
    · refine PickE.eff tok hO (by cbv <;> rfl) (by cbv <;> rfl) (by trivial) ?_ ?_
      · exact (by repeat (first | exact trivial | refine And.intro (by first | exact lv_of hO (by cbv <;> rfl) (by trivial) | (cbv <;> rfl)) ?_))
      refine AnyE.run tok hO (by rfl) (by cbv <;> rfl) (by trivial) ?_
      refine AnyE.many [1, 6] (by cbv <;> rfl) (by rfl) ⟨?_, ?_, trivial⟩
      · refine PickE.callQ hunk (by cbv <;> rfl) (by cbv <;> rfl) ?_ ?_
        · exact (by repeat (first | exact trivial | refine And.intro (by first | exact lv_of hO (by cbv <;> rfl) (by trivial) | (cbv <;> rfl)) ?_))
        refine AnyE.run tok hO (by rfl) (by cbv <;> rfl) (by trivial) ?_
        refine AnyE.effK tok hO (by cbv <;> rfl) (by cbv <;> rfl) (by trivial) ?_ ?_
        · exact (by repeat (first | exact trivial | refine And.intro (by first | exact lv_of hO (by cbv <;> rfl) (by trivial) | (cbv <;> rfl)) ?_))
        refine AnyE.run tok hO (by rfl) (by cbv <;> rfl) (by trivial) ?_
        refine AnyE.effK tok hO (by cbv <;> rfl) (by cbv <;> rfl) (by trivial) ?_ ?_
        · exact (by repeat (first | exact trivial | refine And.intro (by first | exact lv_of hO (by cbv <;> rfl) (by trivial) | (cbv <;> rfl)) ?_))
        refine AnyE.run tok hO (by rfl) (by cbv <;> rfl) (by trivial) ?_
        refine AnyE.effK tok hO (by cbv <;> rfl) (by cbv <;> rfl) (by trivial) ?_ ?_
        · exact (by repeat (first | exact trivial | refine And.intro (by first | exact lv_of hO (by cbv <;> rfl) (by trivial) | (cbv <;> rfl)) ?_))
        refine AnyE.run tok hO (by rfl) (by cbv <;> rfl) (by trivial) ?_
        exact ⟨rfl, _, rfl, rfl, .inl ⟨rfl, rfl, rfl⟩⟩
      · refine PickE.eff tok hO (by cbv <;> rfl) (by cbv <;> rfl) (by trivial) ?_ ?_
        · exact (by repeat (first | exact trivial | refine And.intro (by first | exact lv_of hO (by cbv <;> rfl) (by trivial) | (cbv <;> rfl)) ?_))
        refine AnyE.run tok hO (by rfl) (by cbv <;> rfl) (by trivial) ?_
        refine AnyE.callP hunk (by cbv <;> rfl) (by cbv <;> rfl) ?_
        refine AnyE.run tok hO (by rfl) (by cbv <;> rfl) (by trivial) ?_
        refine AnyE.effK tok hO (by cbv <;> rfl) (by cbv <;> rfl) (by trivial) ?_ ?_
        · exact (by repeat (first | exact trivial | refine And.intro (by first | exact lv_of hO (by cbv <;> rfl) (by trivial) | (cbv <;> rfl)) ?_))
        refine AnyE.run tok hO (by rfl) (by cbv <;> rfl) (by trivial) ?_
        refine AnyE.effK tok hO (by cbv <;> rfl) (by cbv <;> rfl) (by trivial) ?_ ?_
        · exact (by repeat (first | exact trivial | refine And.intro (by first | exact lv_of hO (by cbv <;> rfl) (by trivial) | (cbv <;> rfl)) ?_))
        refine AnyE.run tok hO (by rfl) (by cbv <;> rfl) (by trivial) ?_
        exact ⟨rfl, _, rfl, rfl, .inl ⟨rfl, rfl, rfl⟩⟩
    · refine PickE.eff tok hO (by cbv <;> rfl) (by cbv <;> rfl) (by trivial) ?_ ?_
      · exact (by repeat (first | exact trivial | refine And.intro (by first | exact lv_of hO (by cbv <;> rfl) (by trivial) | (cbv <;> rfl)) ?_))
      refine AnyE.run tok hO (by rfl) (by cbv <;> rfl) (by trivial) ?_
      refine AnyE.many [1, 5] (by cbv <;> rfl) (by rfl) ⟨?_, ?_, trivial⟩
      · refine PickE.callQ hunk (by cbv <;> rfl) (by cbv <;> rfl) ?_ ?_
        · exact (by repeat (first | exact trivial | refine And.intro (by first | exact lv_of hO (by cbv <;> rfl) (by trivial) | (cbv <;> rfl)) ?_))
        refine AnyE.run tok hO (by rfl) (by cbv <;> rfl) (by trivial) ?_
        refine AnyE.effK tok hO (by cbv <;> rfl) (by cbv <;> rfl) (by trivial) ?_ ?_
        · exact (by repeat (first | exact trivial | refine And.intro (by first | exact lv_of hO (by cbv <;> rfl) (by trivial) | (cbv <;> rfl)) ?_))
        refine AnyE.run tok hO (by rfl) (by cbv <;> rfl) (by trivial) ?_
        refine AnyE.effK tok hO (by cbv <;> rfl) (by cbv <;> rfl) (by trivial) ?_ ?_
        · exact (by repeat (first | exact trivial | refine And.intro (by first | exact lv_of hO (by cbv <;> rfl) (by trivial) | (cbv <;> rfl)) ?_))
        refine AnyE.run tok hO (by rfl) (by cbv <;> rfl) (by trivial) ?_
        refine AnyE.effK tok hO (by cbv <;> rfl) (by cbv <;> rfl) (by trivial) ?_ ?_
        · exact (by repeat (first | exact trivial | refine And.intro (by first | exact lv_of hO (by cbv <;> rfl) (by trivial) | (cbv <;> rfl)) ?_))
        refine AnyE.run tok hO (by rfl) (by cbv <;> rfl) (by trivial) ?_
        exact ⟨rfl, _, rfl, rfl, .inr ⟨rfl, rfl, rfl⟩⟩
      · refine PickE.eff tok hO (by cbv <;> rfl) (by cbv <;> rfl) (by trivial) ?_ ?_
        · exact (by repeat (first | exact trivial | refine And.intro (by first | exact lv_of hO (by cbv <;> rfl) (by trivial) | (cbv <;> rfl)) ?_))
        refine AnyE.run tok hO (by rfl) (by cbv <;> rfl) (by trivial) ?_
        refine AnyE.callP hunk (by cbv <;> rfl) (by cbv <;> rfl) ?_
        refine AnyE.run tok hO (by rfl) (by cbv <;> rfl) (by trivial) ?_
        refine AnyE.effK tok hO (by cbv <;> rfl) (by cbv <;> rfl) (by trivial) ?_ ?_
        · exact (by repeat (first | exact trivial | refine And.intro (by first | exact lv_of hO (by cbv <;> rfl) (by trivial) | (cbv <;> rfl)) ?_))
        refine AnyE.run tok hO (by rfl) (by cbv <;> rfl) (by trivial) ?_
        refine AnyE.effK tok hO (by cbv <;> rfl) (by cbv <;> rfl) (by trivial) ?_ ?_
        · exact (by repeat (first | exact trivial | refine And.intro (by first | exact lv_of hO (by cbv <;> rfl) (by trivial) | (cbv <;> rfl)) ?_))
        refine AnyE.run tok hO (by rfl) (by cbv <;> rfl) (by trivial) ?_
        exact ⟨rfl, _, rfl, rfl, .inr ⟨rfl, rfl, rfl⟩⟩
  have hget : ∀ (l : Hp) (id : Nat) (o : AObj), (l.all fun p => Nat.ble 49 p.1 && Nat.blt p.1 55) = true → Hp.get l id = some o → 49 ≤ id ∧ id < 55 := fun l id o hall ho => by
    have := List.all_eq_true.1 hall _ (Hp.mem_of_get ho)
    simp only [Bool.and_eq_true, Nat.blt_eq] at this
    exact ⟨Nat.le_of_ble_eq_true this.1, this.2⟩
  rintro e fm st ⟨rfl, g, rfl, g2, ⟨g3, g4, rfl⟩ | ⟨g3, g4, rfl⟩⟩
  · have hch := choose_ok ok K next (fun _ _ => False) 6 (d.nw + d.nl) d.nw d.ulo d.uhi (by omega) hpos (by omega) hub (by rw [hN8]; exact step) (d.nw + d.nl) 0 (fun _ => 0) a0 (chB d lp h0) 55 (by omega) (fun m hm => absurd hm (Nat.not_lt_zero m)) hall hK
    rw [← updT_self g2, ← updT_self g3, ← updT_self g4]
    obtain ⟨G, hG⟩ : ∃ G, flatG 1 (intC fun _ => 0) (d.nw + d.nl) = G := ⟨_, rfl⟩
    rw [hG] at hch
    rw [hNN] at hch hG ⊢
    refine SW.seq (SW.runN tok hO 2 (by cbv <;> rfl) (by trivial) ?_)
    refine OpsW.mkInts tok (N := NN) (by cbv <;> rfl) (by kernel_rfl) (by omega) ?_
    rw [hG]
    refine OpsW.run tok hO (by cbv <;> rfl) (by trivial) ?_
    refine SW.seqRun tok hO (by cbv <;> rfl) (by trivial) ?_
    refine SW.seqRun tok hO (by cbv <;> rfl) (by trivial) ?_
    refine SW.run tok hO (by cbv <;> rfl) (by trivial) ?_
    refine OpsW.apply (by cbv <;> rfl) (show ApplyW Try.prog chooseV _ _ _ from ⟨en123, hch⟩) fun w st' hk => ?_
    rcases hk with ⟨rfl, nums2, h2, n2, _, rfl, hk⟩ | ⟨_, _, _, _, _, hk⟩
    · refine OpsW.nil ?_
      exact ⟨_, _, rfl, rfl, chO 6 NN d.nw d.ulo d.uhi (flatG 1 (intC nums2) NN), h2, n2, fun id o ho => hget _ id o (by rfl) ho, rfl, hk, (hid _ _ _ hk).1⟩
    · exact hk.elim
  · have hch := choose_oks ok K next (fun _ _ => False) 6 (d.nw + d.nl) d.nw d.ulo d.uhi (by omega) hpos (by omega) hub (by rw [hN8]; exact steps) (d.nw + d.nl) 0 (fun _ => 0) a0 (chB d lp h0) 55 (by omega) (fun m hm => absurd hm (Nat.not_lt_zero m)) hall hK
    rw [← updT_self g2, ← updT_self g3, ← updT_self g4]
    obtain ⟨G, hG⟩ : ∃ G, flatG 1 (intC fun _ => 0) (d.nw + d.nl) = G := ⟨_, rfl⟩
    rw [hG] at hch
    rw [hNN] at hch hG ⊢
    refine SW.seq (SW.runN tok hO 2 (by cbv <;> rfl) (by trivial) ?_)
    refine OpsW.mkInts tok (N := NN) (by cbv <;> rfl) (by kernel_rfl) (by omega) ?_
    rw [hG]
    refine OpsW.run tok hO (by cbv <;> rfl) (by trivial) ?_
    refine SW.seqRun tok hO (by cbv <;> rfl) (by trivial) ?_
    refine SW.seqRun tok hO (by cbv <;> rfl) (by trivial) ?_
    refine SW.run tok hO (by cbv <;> rfl) (by trivial) ?_
    refine OpsW.apply (by cbv <;> rfl) (show ApplyW Try.prog chooseVs _ _ _ from ⟨en123, hch⟩) fun w st' hk => ?_
    rcases hk with ⟨rfl, nums2, h2, n2, _, rfl, hk⟩ | ⟨_, _, _, _, _, hk⟩
    · refine OpsW.nil ?_
      exact ⟨_, _, rfl, rfl, chOs 6 NN d.nw d.ulo d.uhi (flatG 1 (intC nums2) NN), h2, n2, fun id o ho => hget _ id o (by rfl) ho, rfl, hk, (hid _ _ _ hk).1⟩
    · exact hk.elim
end
end Go.Fz
namespace Go.Fz
variable {P : Program} {T : Ti}
theorem setHeap_ok {φ : Fi} {st : St} {w : World} (hr : Rel φ st w) {id : Nat} {o o' : AObj} (ho : st.h.get id = some o) (hown : o.own = true) (hfam : o.fam = none) (hfam' : o'.fam = none) (co : Obj) (hobj : ∀ w' : World, w'.heap[(φ.f id).b]? = some co → ObjR φ w' id o') :
    Rel φ ⟨st.h.set id o', st.n⟩ { w with heap := w.heap.setIfInBounds (φ.f id).b co } ∧ Fr φ st w φ ⟨st.h.set id o', st.n⟩ { w with heap := w.heap.setIfInBounds (φ.f id).b co } := by
  have hb := hr.blk id o ho
  refine hr.turn ho hown hfam hfam' rfl rfl rfl (by simp) (fun k hk => ?_) (hobj _ ?_)
  · rw [Array.getElem?_setIfInBounds_ne (Ne.symm hk)]
  · simp [hb]
def mapD (T : Ti) (t : TypeId) : Option TypeId := match T t with
  | some i => match i.desc with
    | .map k _ => some k
    | _ => none
  | none => none
theorem mapD_ok (hT : TOk P T) {t k : TypeId} (h : mapD T t = some k) : ∃ e, P.underlying t = some (.map k e) := by
  unfold mapD at h
  split at h
  · rename_i i hi
    split at h
    · rename_i k' e hd
      cases h
      exact ⟨e, by rw [← hd]; exact (hT t i hi).und⟩
    · cases h
  · cases h
structure KeyF (P : Program) (kt : TypeId) {β : Type} (V : β → AV) where
  den : β → Value
  val : ∀ (φ : Fi) (b : β) (u : Value), VR φ (V b) u → u = den b
  key : ∀ b, ∃ l, keyOf P kt (den b) = some l
  inj : ∀ b c, den b = den c → b = c
def mapE {β : Type} (V : β → AV) (E : List (β × Nat)) : List (AV × AV × Nat) := E.map fun p => (V p.1, .lit (.bool true), p.2)
def updE {β : Type} [DecidableEq β] (E : List (β × Nat)) (b : β) (clock : Nat) : List (β × Nat) := if b ∈ E.map (·.1) then E else E ++ [(b, clock)]
def updC {β : Type} [DecidableEq β] (E : List (β × Nat)) (b : β) (clock : Nat) : Nat := if b ∈ E.map (·.1) then clock else clock + 1
theorem mapUpd_ok {hT : TOk P T} {φ : Fi} {st : St} {w : World} {t kt : TypeId} {β : Type} [DecidableEq β] {V : β → AV} (K : Maps.Keyed P kt) (F : KeyF P kt V) {b : β} {u ku vu : Value} {id clock : Nat} {E : List (β × Nat)} (hr : Rel φ st w) (ha : VR φ (.mp id) u) (hku : VR φ (V b) ku) (hvu : VR φ (.lit (.bool true)) vu)
    (hd : mapD T t = some kt) (hm : st.h.get id = some (.map (mapE V E) clock)) :
    ∃ w', (Instr.mapUpdate t u ku vu).run P w = .ok () w' ∧ Rel φ ⟨st.h.set id (.map (mapE V (updE E b clock)) (updC E b clock)), st.n⟩ w' ∧ Fr φ st w φ ⟨st.h.set id (.map (mapE V (updE E b clock)) (updC E b clock)), st.n⟩ w' := by
  obtain ⟨e, hu⟩ := mapD_ok hT hd
  obtain ⟨rfl, hid⟩ := ha.mp_inv
  obtain rfl := hvu.lit_inv
  obtain rfl := F.val φ b ku hku
  obtain ⟨lx, hlx⟩ := F.key b
  obtain ⟨ces, hb, hsz, hes⟩ := hr.obj id _ hm
  have hlen : (mapE V E).length = E.length := by simp [mapE]
  rw [hlen] at hsz
  have hent : ∀ (i : Nat) (p : β × Nat), E[i]? = some p → ∃ e, ces[i]? = some e ∧ e.key = F.den p.1 ∧ e.val = .bool true ∧ e.born = p.2 := fun i p hp => by
    obtain ⟨e, h1, h2, h3, h4⟩ := hes i (V p.1, .lit (.bool true), p.2) (by simp [mapE, hp])
    exact ⟨e, h1, F.val φ p.1 _ h2, h3.lit_inv, h4⟩
  have hall : ∀ e ∈ ces.toList, ∃ p, p ∈ E ∧ e.key = F.den p.1 := fun e he => by
    obtain ⟨i, hi, he2⟩ := List.getElem_of_mem he
    have hil : i < E.length := by rw [← hsz]; simpa using hi
    obtain ⟨e', h1, h2, _⟩ := hent i E[i] (List.getElem?_eq_getElem hil)
    have : e' = e := by
      rw [← Array.getElem?_toList, List.getElem?_eq_getElem hi, he2] at h1
      exact (Option.some.inj h1).symm
    subst this
    exact ⟨E[i], List.getElem_mem hil, h2⟩
  have hfind := K.find w hlx ces.toList fun e he => by
    obtain ⟨p, _, h2⟩ := hall e he
    rw [h2]; exact F.key p.1
  have hcheck := K.check w false hlx
  rcases hfind with ⟨hrun, hne⟩ | ⟨j, e0, hrun, hj, hje⟩
  · have hnot : b ∉ E.map (·.1) := fun hin => by
      obtain ⟨p, hp, hpb⟩ := List.mem_map.1 hin
      obtain ⟨i, hi, rfl⟩ := List.getElem_of_mem hp
      obtain ⟨e, h1, h2, _⟩ := hent i E[i] (List.getElem?_eq_getElem hi)
      rw [← Array.getElem?_toList] at h1
      exact hne e (List.mem_of_getElem? h1) (by rw [h2, hpb])
    have e1 : updE E b clock = E ++ [(b, clock)] := if_neg hnot
    have e2 : updC E b clock = clock + 1 := if_neg hnot
    rw [e1, e2]
    have := setHeap_ok (o' := .map (mapE V (E ++ [(b, clock)])) (clock + 1)) hr hm rfl rfl rfl (.map (ces.push { key := F.den b, val := .bool true, born := clock }) (clock + 1)) (fun w' hw' => ⟨_, hw', by simp [hsz, mapE], fun i x hx => by
      by_cases hi : i < E.length
      · have hx2 : (mapE V E)[i]? = some x := by
          simp only [mapE, List.map_append] at hx ⊢
          rwa [List.getElem?_append_left (by simpa using hi)] at hx
        obtain ⟨e, k1, k2⟩ := hes i x hx2
        exact ⟨e, by rw [Array.getElem?_push_lt (by omega), ← k1, Array.getElem?_eq_getElem (by omega)], k2⟩
      · have hie : i = E.length := by
          have : i < (mapE V (E ++ [(b, clock)])).length := (List.getElem?_eq_some_iff.1 hx).1
          simp [mapE] at this; omega
        subst hie
        have hxx : x = (V b, .lit (.bool true), clock) := by
          simp [mapE] at hx; exact hx.symm
        subst hxx
        exact ⟨{ key := F.den b, val := .bool true, born := clock }, by rw [← hsz]; simp, hku, .lit _, rfl⟩⟩)
    refine ⟨_, ?_, this.1, this.2⟩
    simp [Instr.mapUpdate, run_underlying hu, MapKept.run_getObj_map hb, hcheck, hrun, MapKept.run_setObj_map _ hb, Result.andThen]
  · have hjl : j < E.length := by
      have : j < ces.toList.length := (List.getElem?_eq_some_iff.1 hj).1
      rw [← hsz]; simpa using this
    have hjc : ces[j]? = some e0 := by rw [← Array.getElem?_toList]; exact hj
    obtain ⟨e', k1, k2, k3, k4⟩ := hent j E[j] (List.getElem?_eq_getElem hjl)
    have hee : e' = e0 := by rw [hjc] at k1; exact (Option.some.inj k1).symm
    subst hee
    have hin : b ∈ E.map (·.1) := List.mem_map.2 ⟨E[j], List.getElem_mem hjl, F.inj _ _ (by rw [← k2, hje])⟩
    have e1 : updE E b clock = E := if_pos hin
    have e2 : updC E b clock = clock := if_pos hin
    rw [e1, e2]
    have := setHeap_ok (o' := .map (mapE V E) clock) hr hm rfl rfl rfl (.map (ces.modify j fun e => { e with key := F.den b, val := .bool true }) clock) (fun w' hw' => ⟨_, hw', by simp [hsz, hlen], fun i x hx => by
      by_cases hi : i = j
      · subst hi
        obtain ⟨e, q1, q2, q3, q4⟩ := hes i x hx
        have : e = e' := by rw [hjc] at q1; exact (Option.some.inj q1).symm
        subst this
        refine ⟨{ e with key := F.den b, val := .bool true }, by simp [Array.getElem?_modify, hjc], ?_, ?_, q4⟩
        · show VR φ x.1 (F.den b)
          rw [← hje]; exact q2
        · show VR φ x.2.1 (.bool true)
          rw [← k3]; exact q3
      · obtain ⟨e, q1, q2⟩ := hes i x hx
        exact ⟨e, by simp [Array.getElem?_modify, Ne.symm hi, q1], q2⟩⟩)
    refine ⟨_, ?_, this.1, this.2⟩
    have hstay := K.stays w hlx
    simp [Instr.mapUpdate, run_underlying hu, MapKept.run_getObj_map hb, hcheck, hrun, hjc, hje, hstay, MapKept.run_setObj_map _ hb, Result.andThen]
def updAt (ops : Array Oper) (i : Nat) (f : Fm) : Option (TypeId × AV × AV × AV) := match ops[i]? with
  | none => none
  | some o => match wantA ops f.ts o with
    | some true => match o.op with
      | .mapUpdate t m k v => some (t, Operand.av f.ts m, Operand.av f.ts k, Operand.av f.ts v)
      | _ => none
    | _ => none
theorem OpsW.mapUpd (hT : TOk P T) {rd : Option Nat} {ops : Array Oper} {L : Fm → St → Prop} {f : Fm} {st : St} {i : Nat} {l : List Nat} {t kt : TypeId} {β : Type} [DecidableEq β] {V : β → AV} (K : Maps.Keyed P kt) (F : KeyF P kt V) {b : β} {id clock : Nat} {E : List (β × Nat)}
    (hx : updAt ops i f = some (t, .mp id, V b, .lit (.bool true))) (hd : mapD T t = some kt) (hm : st.h.get id = some (.map (mapE V E) clock))
    (h : OpsW P rd ops l L (putAt ops i f undA) ⟨st.h.set id (.map (mapE V (updE E b clock)) (updC E b clock)), st.n⟩) : OpsW P rd ops (i :: l) L f st := by
  unfold updAt at hx
  split at hx
  · cases hx
  · rename_i o ho
    split at hx
    · rename_i hw
      split at hx
      · rename_i t' m k v hop
        simp only [Option.some.injEq, Prod.mk.injEq] at hx
        obtain ⟨rfl, e2, e3, e4⟩ := hx
        have hput : ∀ v, putAt ops i f v = f.put o.dst v := fun v => by simp [putAt, ho]
        rw [hput] at h
        refine OpsW.value ho hw (fun c hc => by rw [hop] at hc; cases hc) (fun φ w a h2 h3 => ?_) h
        have hρ := opR_of h3.ts
        have a1 := hρ m
        have a2 := hρ k
        have a3 := hρ v
        rw [e2] at a1; rw [e3] at a2; rw [e4] at a3
        obtain ⟨w', k2, k3, k4⟩ := mapUpd_ok (hT := hT) K F h2 a1 a2 a3 hd hm
        exact ⟨φ, w', undef, .inr ⟨by simp [execOp, hop, k2, Result.andThen], rfl⟩, .lit _, k3, Ext.refl _, k4⟩
      · cases hx
    · cases hx
end Go.Fz
namespace Go.Fz
open Go.Proofs
set_option maxRecDepth 100000
abbrev Mk := Bool × Bool × Bool × Bool × Bool
def mkV (b : Mk) : AV := .agg [.sb b.1, .sb b.2.1, .sb b.2.2.1, .sb b.2.2.2.1, .sb b.2.2.2.2]
theorem lt_of_ble {a b : Nat} (h : Nat.ble (a + 1) b = true) : a < b := Nat.le_of_ble_eq_true h
theorem laid : laidOutB Try.prog = true := by kernel_rfl
theorem keyed85 : Maps.Keyed Try.prog 145 := Maps.Keyed.of_law (deep_law_laid (m := 3) laid (by omega) (lt_of_ble (by kernel_rfl)) (by kernel_rfl) (by kernel_rfl))
def mkKey : KeyF Try.prog 145 mkV where
  den b := .agg #[.bool b.1, .bool b.2.1, .bool b.2.2.1, .bool b.2.2.2.1, .bool b.2.2.2.2]
  val φ b u h := by
    obtain ⟨us, rfl, h1⟩ := h.agg_inv
    match us, h1 with
    | [_, _, _, _, _], .cons h1 (.cons h2 (.cons h3 (.cons h4 (.cons h5 .nil)))) =>
      rw [h1.sb_inv, h2.sb_inv, h3.sb_inv, h4.sb_inv, h5.sb_inv]
  key b := by
    obtain ⟨b0, b1, b2, b3, b4⟩ := b
    cases b0 <;> cases b1 <;> cases b2 <;> cases b3 <;> cases b4 <;> exact Option.isSome_iff_exists.1 (by kernel_rfl)
  inj b c h := by
    obtain ⟨b0, b1, b2, b3, b4⟩ := b
    obtain ⟨c0, c1, c2, c3, c4⟩ := c
    simp at h
    simp [h]
end Go.Fz
namespace Go.Fz
open Go.Proofs
set_option maxRecDepth 100000
def truF (d : DayD) (f : Nat → Int) : TruD := ⟨d.nw, false, f, d.nl, false, fun i => f (d.nw + i)⟩
def wrongOf (d : DayD) (f : Nat → Int) : Mk := (wrM (d.rightB (d.tally (truF d f))) d.nc 0, wrM (d.rightB (d.tally (truF d f))) d.nc 1, wrM (d.rightB (d.tally (truF d f))) d.nc 2, wrM (d.rightB (d.tally (truF d f))) d.nc 3, wrM (d.rightB (d.tally (truF d f))) d.nc 4)
def noMk : Mk := (false, false, false, false, false)
structure Pr where
  E : List (Mk × Nat)
  cl : Nat
  outs : List (Nat → Int)
def Pr.next (d : DayD) (a : Pr) (f : Nat → Int) : Pr := ⟨updE a.E (wrongOf d f) a.cl, updC a.E (wrongOf d f) a.cl, if wrongOf d f = noMk then a.outs ++ [f] else a.outs⟩
def outcC (d : DayD) (f : Nat → Int) (k : Nat) : AV := match k with
  | 0 => intsV d.nw false f
  | 1 => intsV d.nl false (fun i => f (d.nw + i))
  | 2 => intsV d.nw false (d.bun (truF d f))
  | 3 => intsV d.nw false (d.lef (truF d f))
  | 4 => iV (d.tally (truF d f)).hands
  | 5 => iV (d.tally (truF d f)).loose
  | 6 => iV (d.tally (truF d f)).flats
  | _ => iV (d.tally (truF d f)).spare
def outG (d : DayD) (l : List (Nat → Int)) (i k : Nat) : AV := outcC d (l.getD i (fun _ => 0)) k
theorem outG_below (d : DayD) (l : List (Nat → Int)) (i k : Nat) : Below 0 (outG d l i k) := by
  unfold outG outcC
  split <;> first | exact intsV_below _ _ _ | exact Below.lit
def outA (d : DayD) (l : List (Nat → Int)) : List AV := flatG 8 (outG d l) l.length
theorem outA_snoc (d : DayD) (l : List (Nat → Int)) (f : Nat → Int) : outA d (l ++ [f]) = outA d l ++ [outcC d f 0, outcC d f 1, outcC d f 2, outcC d f 3, outcC d f 4, outcC d f 5, outcC d f 6, outcC d f 7] := by
  unfold outA
  rw [List.length_append, List.length_singleton]
  show flatG 8 (outG d (l ++ [f])) l.length ++ cellsFrom (outG d (l ++ [f]) l.length) 0 8 = _
  rw [show flatG 8 (outG d (l ++ [f])) l.length = flatG 8 (outG d l) l.length from flatG_congr fun i k hi => by unfold outG; rw [List.getD_eq_getElem?_getD, List.getElem?_append_left hi, ← List.getD_eq_getElem?_getD]]
  have : outG d (l ++ [f]) l.length = outcC d f := funext fun k => by unfold outG; simp
  rw [this]; rfl
theorem outA_length (d : DayD) (l : List (Nat → Int)) : (outA d l).length = l.length * 8 := flatG_length _ _ _
def stZ : List AV := [iV 0, iV 0, nl3, nl3, nl3, nl3, .lit (.map none)]
def stW (d : DayD) (XO : AV) : List AV := [iV d.hand, iV d.flat, womsV d, lotsV d, cntsV d, XO, .mp 2]
noncomputable def stParts : Code × Code := match nthC 2 (bodyF Try.f76) with
  | .seq _ (.block _ (.rangeFunc _ _ a b)) => (a, b)
  | c => (c, c)
def stTs : Ts := ⟨34, getT [(1, .ptr 0 0), (2, .ptr 1 0), (3, .ptr 3 0), (11, .fn (.func 122) [] [.ptr 4 0])]⟩
noncomputable def stR : ALoop := { state := .ready, pending := none, tmps := stTs, params := #[12], assign := stParts.1, body := stParts.2, dfid := 5 }
def outsV (q : Nat) : Nat → AV
  | 0 => nl3
  | n + 1 => .sl q 0 (n + 1) 8 false
def outsH (d : DayD) (q : Nat) : List (Nat → Int) → Hp
  | [] => []
  | f :: l => [(q, .cells none false (outA d (f :: l)))]
noncomputable def stH (d : DayD) (XO : AV) (ME : List (AV × AV × Nat)) (cl : Nat) (OB : Hp) : Hp := chB d (.loop stR) ([(3, .cells none false (stW d XO)), (2, .map ME cl), (1, .cells none false stZ), (0, .cells none false (dayC d))] ++ OB)
def stK (d : DayD) (a : Pr) (v : AV) (st' : St) : Prop := v = .lit (.bool true) ∧ ∃ (m n2 : Nat) (G : List AV) (fm : Option Nat) (h : Hp), st' = ⟨h, n2⟩ ∧ 8 ≤ n2 ∧
  h.get 6 = some (.loop stR) ∧ h.get 5 = some .dfr ∧ h.get 4 = some (.cells none false (dayC d)) ∧ h.get 3 = some (.cells none false (stW d (outsV m a.outs.length))) ∧ h.get 2 = some (.map (mapE mkV a.E) a.cl) ∧ h.get 1 = some (.cells none false stZ) ∧ h.get 0 = some (.cells none false (dayC d)) ∧
  (a.outs = [] ∨ (7 ≤ m ∧ m < n2 ∧ h.get m = some (.cells fm false G) ∧ G = outA d a.outs))
theorem tally_fit {d : DayD} {f : Nat → Int} (h : ∀ m, m < d.nw + d.nl → d.ulo m ≤ f m ∧ f m ≤ d.uhi m) : d.fits (truF d f) = true := by
  unfold DayD.fits
  have e1 : ∀ i, i < d.nw → inB (f i) (d.wlo i) (d.whi i) = true := fun i hi => by
    have := h i (by omega)
    simp only [DayD.ulo, DayD.uhi, hi, if_true] at this
    simp only [inB, Bool.and_eq_true, decide_eq_true_eq]; exact this
  have e2 : ∀ i, i < d.nl → inB (f (d.nw + i)) (d.llo i) (d.lhi i) = true := fun i hi => by
    have := h (d.nw + i) (by omega)
    have hn : ¬ d.nw + i < d.nw := by omega
    simp only [DayD.ulo, DayD.uhi, hn, if_false, Nat.add_sub_cancel_left] at this
    simp only [inB, Bool.and_eq_true, decide_eq_true_eq]; exact this
  show (decide (d.nw = d.nw) && decide (d.nl = d.nl) && allN d.nw (fun i => inB (f i) (d.wlo i) (d.whi i)) && allN d.nl (fun i => inB (f (d.nw + i)) (d.llo i) (d.lhi i))) = true
  rw [allN_true e1, allN_true e2]; simp
set_option maxHeartbeats 16000000 in
theorem st_round (d : DayD) (gd : d.Good) (f : Nat → Int) (hf : ∀ m, m < d.nw + d.nl → d.ulo m ≤ f m ∧ f m ≤ d.uhi m) (a : Pr) (hlen : a.outs.length < 100000) :
    YieldW Try.prog 6 [truE f d.nw d.nl] ⟨stH d (outsV 7 a.outs.length) (mapE mkV a.E) a.cl (outsH d 7 a.outs), 8⟩ (stK d (a.next d f)) := by
  obtain ⟨O, hO⟩ : ∃ O : Ar, O = std := ⟨_, rfl⟩
  have htal := tally_ok' gd (tally_fit hf)
  have hwr := wrongIn_ok d (d.tally (truF d f)) gd.nc (fun i hi => ⟨(gd.cnt i hi).1.1, (gd.cnt i hi).1.2, (gd.cnt i hi).2.1.1, (gd.cnt i hi).2.1.2⟩)
  obtain ⟨E, cl, outs⟩ := a
  have hW : Pure Try.prog 83 [dayV d, talV (d.tally (truF d f))] (mkV (wrongOf d f)) := hwr
  have hnext : Pr.next d ⟨E, cl, outs⟩ f = ⟨updE E (wrongOf d f) cl, updC E (wrongOf d f) cl, if wrongOf d f = noMk then outs ++ [f] else outs⟩ := rfl
  rw [hnext]
  have ho0 : outcC d f 0 = intsV d.nw false f := rfl
  have hcell : [intsV d.nw false f, intsV d.nl false (fun i => f (d.nw + i)), intsV d.nw false (d.tally (truF d f)).bun, intsV d.nw false (d.tally (truF d f)).lef, iV (d.tally (truF d f)).hands, iV (d.tally (truF d f)).loose, iV (d.tally (truF d f)).flats, iV (d.tally (truF d f)).spare] = [outcC d f 0, outcC d f 1, outcC d f 2, outcC d f 3, outcC d f 4, outcC d f 5, outcC d f 6, outcC d f 7] := rfl
  have hsn := outA_snoc d outs f
  rw [← hcell] at hsn
  have htal' : Pure Try.prog 84 [dayV d, truV (truF d f)] (.agg [intsV d.nw false (d.tally (truF d f)).bun, intsV d.nw false (d.tally (truF d f)).lef, iV (d.tally (truF d f)).hands, iV (d.tally (truF d f)).loose, iV (d.tally (truF d f)).flats, iV (d.tally (truF d f)).spare]) := htal
  have hW' : Pure Try.prog 83 [dayV d, .agg [intsV d.nw false (d.tally (truF d f)).bun, intsV d.nw false (d.tally (truF d f)).lef, iV (d.tally (truF d f)).hands, iV (d.tally (truF d f)).loose, iV (d.tally (truF d f)).flats, iV (d.tally (truF d f)).spare]] (mkV (wrongOf d f)) := hW
  generalize wrongOf d f = W at hW' ⊢
  clear hW hwr htal hcell ho0 hnext
  generalize (d.tally (truF d f)).bun = BU at htal' hW' hsn
  generalize (d.tally (truF d f)).lef = LE at htal' hW' hsn
  generalize (d.tally (truF d f)).hands = HA at htal' hW' hsn
  generalize (d.tally (truF d f)).loose = LO at htal' hW' hsn
  generalize (d.tally (truF d f)).flats = FL at htal' hW' hsn
  generalize (d.tally (truF d f)).spare = SP at htal' hW' hsn
  obtain ⟨ME, hME⟩ : ∃ ME, mapE mkV E = ME := ⟨_, rfl⟩
  obtain ⟨M2, hM2⟩ : ∃ M, mapE mkV (updE E W cl) = M := ⟨_, rfl⟩
  obtain ⟨c2, hc2⟩ : ∃ c, updC E W cl = c := ⟨_, rfl⟩
  obtain ⟨w0, w1, w2, w3, w4⟩ := W
  simp only at hlen ⊢
  rw [hME]
  cases outs with
  | nil =>
    refine YieldW.of_round (r := stR) rfl rfl ?_
    refine SW.run tok hO (by cbv <;> rfl) (by trivial) ?_
    refine ⟨stR, rfl, rfl, SW.block ?_⟩
    obtain ⟨RB, hRB⟩ : ∃ r, r = ({ stR with state := .busy } : ALoop) := ⟨_, rfl⟩
    rw [← hRB]
    refine SW.seqRun tok hO (by cbv <;> rfl) (by trivial) ?_
    refine OpsW.callP htal' (by cbv <;> rfl) ?_
    refine OpsW.run tok hO (by cbv <;> rfl) (by trivial) ?_
    refine SW.seqRun tok hO (by cbv <;> rfl) (by trivial) ?_
    refine OpsW.callP hW' (by cbv <;> rfl) ?_
    refine OpsW.run tok hO (by cbv <;> rfl) (by trivial) ?_
    refine SW.seq (SW.runN tok hO 3 (by cbv <;> rfl) (by trivial) ?_)
    refine OpsW.mapUpd tok keyed85 mkKey (b := (w0, w1, w2, w3, w4)) (id := 2) (E := E) (clock := cl) (by cbv <;> rfl) (by kernel_rfl) (by rw [hME]; rfl) ?_
    rw [hM2, hc2]
    refine OpsW.nil ?_
    refine SW.seqRun tok hO (by cbv <;> rfl) (by trivial) ?_
    refine SW.condS (by cbv <;> rfl) (fun h1 => ?_) (fun h1 => SW.skip ?_)
    · have hWn : ((w0, w1, w2, w3, w4) : Mk) = noMk := by
        subst hO; simp [std] at h1; simp [noMk, h1]
      rw [if_pos hWn]
      refine SW.runN tok hO 6 (by cbv <;> rfl) (by trivial) ?_
      refine OpsW.appNil tok (by cbv <;> rfl) (by rfl) (by kernel_rfl) (by rfl) (by rfl) ?_
      refine OpsW.run tok hO (by cbv <;> rfl) (by trivial) ?_
      refine ⟨_, rfl, rfl, 12, 13, _, none, _, rfl, by omega, by subst hRB; rfl, rfl, rfl, rfl, by show _ = some (AObj.map (mapE mkV (updE E (w0, w1, w2, w3, w4) cl)) c2); rw [hM2]; rfl, rfl, rfl, .inr ⟨by omega, by omega, rfl, hsn.symm⟩⟩
    · have hWn : ((w0, w1, w2, w3, w4) : Mk) ≠ noMk := by
        intro hq; simp [noMk] at hq; subst hO; simp [std, hq] at h1
      rw [if_neg hWn]
      refine ⟨_, rfl, rfl, 7, 11, [], none, _, rfl, by omega, by subst hRB; rfl, rfl, rfl, rfl, by show _ = some (AObj.map (mapE mkV (updE E (w0, w1, w2, w3, w4) cl)) c2); rw [hM2]; rfl, rfl, rfl, .inl rfl⟩
  | cons f0 l =>
    obtain ⟨G1, hG1⟩ : ∃ G, outA d (f0 :: l) = G := ⟨_, rfl⟩
    have hH : outsH d 7 (f0 :: l) = [(7, .cells none false G1)] := by rw [← hG1]; rfl
    obtain ⟨LL, hLL⟩ : ∃ n, l.length = n := ⟨_, rfl⟩
    have hV : outsV 7 (f0 :: l).length = .sl 7 0 (LL + 1) 8 false := by rw [← hLL]; rfl
    have hGf : G1 = flatG 8 (outG d (f0 :: l)) (LL + 1) := by rw [← hG1, ← hLL]; rfl
    have hlen' : LL + 1 < 100000 := by rw [← hLL]; exact hlen
    rw [hH, hV]
    rw [hG1] at hsn
    refine YieldW.of_round (r := stR) rfl rfl ?_
    refine SW.run tok hO (by cbv <;> rfl) (by trivial) ?_
    refine ⟨stR, rfl, rfl, SW.block ?_⟩
    obtain ⟨RB, hRB⟩ : ∃ r, r = ({ stR with state := .busy } : ALoop) := ⟨_, rfl⟩
    rw [← hRB]
    refine SW.seqRun tok hO (by cbv <;> rfl) (by trivial) ?_
    refine OpsW.callP htal' (by cbv <;> rfl) ?_
    refine OpsW.run tok hO (by cbv <;> rfl) (by trivial) ?_
    refine SW.seqRun tok hO (by cbv <;> rfl) (by trivial) ?_
    refine OpsW.callP hW' (by cbv <;> rfl) ?_
    refine OpsW.run tok hO (by cbv <;> rfl) (by trivial) ?_
    refine SW.seq (SW.runN tok hO 3 (by cbv <;> rfl) (by trivial) ?_)
    refine OpsW.mapUpd tok keyed85 mkKey (b := (w0, w1, w2, w3, w4)) (id := 2) (E := E) (clock := cl) (by cbv <;> rfl) (by kernel_rfl) (by rw [hME]; rfl) ?_
    rw [hM2, hc2]
    refine OpsW.nil ?_
    refine SW.seqRun tok hO (by cbv <;> rfl) (by trivial) ?_
    refine SW.condS (by cbv <;> rfl) (fun h1 => ?_) (fun h1 => SW.skip ?_)
    · have hWn : ((w0, w1, w2, w3, w4) : Mk) = noMk := by
        subst hO; simp [std] at h1; simp [noMk, h1]
      rw [if_pos hWn]
      refine SW.runN tok hO 6 (by cbv <;> rfl) (by trivial) ?_
      refine OpsW.appOne (g := outG d (f0 :: l)) (len := LL + 1) tok (by cbv <;> rfl) (by rfl) (by rfl) hGf (by kernel_rfl) (by rfl) (by rfl) (by omega) fun G2 hG2 => ?_
      refine OpsW.run tok hO (by cbv <;> rfl) (by trivial) ?_
      refine ⟨_, rfl, rfl, 12, 13, _, (some 7), _, rfl, by omega, by subst hRB; rfl, rfl, rfl, by show _ = some (AObj.cells none false (stW d (outsV 12 ((f0 :: l) ++ [f]).length))); rw [show ((f0 :: l) ++ [f]).length = LL + 1 + 1 by simp [hLL]]; rfl, by show _ = some (AObj.map (mapE mkV (updE E (w0, w1, w2, w3, w4) cl)) c2); rw [hM2]; rfl, rfl, rfl, .inr ⟨by omega, by omega, rfl, by rw [hG2, ← hGf]; exact hsn.symm⟩⟩
    · have hWn : ((w0, w1, w2, w3, w4) : Mk) ≠ noMk := by
        intro hq; simp [noMk] at hq; subst hO; simp [std, hq] at h1
      rw [if_neg hWn]
      refine ⟨_, rfl, rfl, 7, 11, _, none, _, rfl, by omega, by subst hRB; rfl, rfl, rfl, by show _ = some (AObj.cells none false (stW d (outsV 7 (f0 :: l).length))); rw [hV]; rfl, by show _ = some (AObj.map (mapE mkV (updE E (w0, w1, w2, w3, w4) cl)) c2); rw [hM2]; rfl, rfl, rfl, .inr ⟨by omega, by omega, rfl, hG1.symm⟩⟩
end Go.Fz
namespace Go.Fz
open Go.Proofs
set_option maxRecDepth 100000
theorem stH_get {d : DayD} {XO : AV} {ME : List (AV × AV × Nat)} {cl q : Nat} {outs : List (Nat → Int)} {id : Nat} {o : AObj} (h : Hp.get (stH d XO ME cl (outsH d q outs)) id = some o) :
    (id = 6 ∧ o = .loop stR) ∨ (id = 5 ∧ o = .dfr) ∨ (id = 4 ∧ o = .cells none false (dayC d)) ∨ (id = 3 ∧ o = .cells none false (stW d XO)) ∨ (id = 2 ∧ o = .map ME cl) ∨ (id = 1 ∧ o = .cells none false stZ) ∨ (id = 0 ∧ o = .cells none false (dayC d)) ∨
      (id = q ∧ outs ≠ [] ∧ o = .cells none false (outA d outs)) := by
  simp only [stH, chB, List.cons_append, List.nil_append, Hp.get] at h
  split at h
  · rename_i e; cases h; exact .inl ⟨e.symm, rfl⟩
  split at h
  · rename_i e; cases h; exact .inr (.inl ⟨e.symm, rfl⟩)
  split at h
  · rename_i e; cases h; exact .inr (.inr (.inl ⟨e.symm, rfl⟩))
  split at h
  · rename_i e; cases h; exact .inr (.inr (.inr (.inl ⟨e.symm, rfl⟩)))
  split at h
  · rename_i e; cases h; exact .inr (.inr (.inr (.inr (.inl ⟨e.symm, rfl⟩))))
  split at h
  · rename_i e; cases h; exact .inr (.inr (.inr (.inr (.inr (.inl ⟨e.symm, rfl⟩)))))
  split at h
  · rename_i e; cases h; exact .inr (.inr (.inr (.inr (.inr (.inr (.inl ⟨e.symm, rfl⟩))))))
  cases outs with
  | nil => simp [outsH, Hp.get] at h
  | cons f l =>
    simp only [outsH, Hp.get] at h
    split at h
    · rename_i e; cases h; exact .inr (.inr (.inr (.inr (.inr (.inr (.inr ⟨e.symm, by simp, rfl⟩))))))
    · cases h
theorem getT_ren {ρ : Nat → Nat} {n : Nat} : ∀ {l : List (Nat × AV)}, (∀ p ∈ l, RenV ρ n p.2 p.2) → ∀ i, RenV ρ n (getT l i) (getT l i)
  | [], _, _ => RenV.any
  | (j, a) :: r, h, i => by
    simp only [getT]
    cases Nat.beq j i with
    | true => exact h (j, a) List.mem_cons_self
    | false => exact getT_ren (fun p hp => h p (List.mem_cons_of_mem _ hp)) i
theorem mapE_closed (E : List (Mk × Nat)) : ∀ x ∈ mapE mkV E, Below 0 x.1 ∧ Below 0 x.2.1 := fun x hx => by
  obtain ⟨p, _, rfl⟩ := List.mem_map.1 hx
  exact ⟨Below.agg (AllB.ok ⟨Below.sb, Below.sb, Below.sb, Below.sb, Below.sb, trivial⟩), Below.lit⟩
theorem stX {d : DayD} {E : List (Mk × Nat)} {cl : Nat} {outs : List (Nat → Int)} (σ : Nat → Nat) (hσ : ∀ id, id ≤ 6 → σ id = id) {m q n : Nat} (hm : 7 ≤ m) (hq : σ q = m) (hq6 : 6 < q) (hqn : outs ≠ [] → q < n) (hn : 7 ≤ n) {h1 : Hp} {n1 : Nat} {fm : Option Nat} {G : List AV}
    (g6 : h1.get 6 = some (.loop stR)) (g5 : h1.get 5 = some .dfr) (g4 : h1.get 4 = some (.cells none false (dayC d))) (g3 : h1.get 3 = some (.cells none false (stW d (outsV m outs.length)))) (g2 : h1.get 2 = some (.map (mapE mkV E) cl)) (g1 : h1.get 1 = some (.cells none false stZ)) (g0 : h1.get 0 = some (.cells none false (dayC d)))
    (ga : outs = [] ∨ (h1.get m = some (.cells fm false G) ∧ G = outA d outs)) : WeakX σ ⟨h1, n1⟩ ⟨stH d (outsV q outs.length) (mapE mkV E) cl (outsH d q outs), n⟩ := by
  have rp : ∀ j, j ≤ 6 → RenV σ n (.ptr j 0) (.ptr j 0) := fun j hj => by
    have := RenV.ptr (ρ := σ) (n := n) (j := j) (off := 0) (by omega)
    rwa [hσ j hj] at this
  have rts : ∀ i, RenV σ n (stTs.get i) (stTs.get i) := getT_ren fun p hp => by
    simp only [List.mem_cons, List.not_mem_nil, or_false] at hp
    rcases hp with rfl | rfl | rfl | rfl
    · exact rp 0 (by omega)
    · exact rp 1 (by omega)
    · exact rp 3 (by omega)
    · exact RenV.fn .nil (.cons (rp 4 (by omega)) .nil)
  have rmp : RenV σ n (.mp 2) (.mp 2) := by
    have := RenV.mp (ρ := σ) (n := n) (j := 2) (by omega)
    rwa [hσ 2 (by omega)] at this
  have rx : RenV σ n (outsV q outs.length) (outsV m outs.length) := by
    cases hl : outs.length with
    | zero => exact RenV.closed Below.lit
    | succ k =>
      have hne : outs ≠ [] := fun e => by rw [e] at hl; cases hl
      have := RenV.sl (ρ := σ) (n := n) (j := q) (off := 0) (len := k + 1) (sz := 8) (ex := false) (hqn hne)
      rwa [hq] at this
  have robj : ∀ id o, Hp.get (stH d (outsV q outs.length) (mapE mkV E) cl (outsH d q outs)) id = some o → id < n ∧ ∃ o1, h1.get (σ id) = some o1 ∧ RenX σ n o o1 ∧ (id ≤ 6 → o1.fam = none ∧ σ id = id) ∧ (6 < id → id = q) := fun id o h => by
    rcases stH_get h with ⟨rfl, rfl⟩ | ⟨rfl, rfl⟩ | ⟨rfl, rfl⟩ | ⟨rfl, rfl⟩ | ⟨rfl, rfl⟩ | ⟨rfl, rfl⟩ | ⟨rfl, rfl⟩ | ⟨rfl, hne, rfl⟩
    · exact ⟨by omega, _, by rw [hσ 6 (by omega)]; exact g6, .base (.loop rfl rfl rfl rfl rfl (hσ 5 (by omega)).symm (by show 5 < n; omega) rfl rts), fun _ => ⟨rfl, hσ 6 (by omega)⟩, fun h => by omega⟩
    · exact ⟨by omega, _, by rw [hσ 5 (by omega)]; exact g5, .base .dfr, fun _ => ⟨rfl, hσ 5 (by omega)⟩, fun h => by omega⟩
    · exact ⟨by omega, _, by rw [hσ 4 (by omega)]; exact g4, .base (.cells (RenVs.closed (dayC_below d))), fun _ => ⟨rfl, hσ 4 (by omega)⟩, fun h => by omega⟩
    · exact ⟨by omega, _, by rw [hσ 3 (by omega)]; exact g3, .base (.cells (.cons (RenV.closed Below.lit) (.cons (RenV.closed Below.lit) (.cons (RenV.closed (womsV_below d)) (.cons (RenV.closed (lotsV_below d)) (.cons (RenV.closed (cntsV_below d)) (.cons rx (.cons rmp .nil)))))))), fun _ => ⟨rfl, hσ 3 (by omega)⟩, fun h => by omega⟩
    · exact ⟨by omega, _, by rw [hσ 2 (by omega)]; exact g2, .map (mapE_closed E), fun _ => ⟨rfl, hσ 2 (by omega)⟩, fun h => by omega⟩
    · exact ⟨by omega, _, by rw [hσ 1 (by omega)]; exact g1, .base (.cells (RenVs.closed (AllB.ok ⟨Below.lit, Below.lit, Below.lit, Below.lit, Below.lit, Below.lit, Below.lit, trivial⟩))), fun _ => ⟨rfl, hσ 1 (by omega)⟩, fun h => by omega⟩
    · exact ⟨by omega, _, by rw [hσ 0 (by omega)]; exact g0, .base (.cells (RenVs.closed (dayC_below d))), fun _ => ⟨rfl, hσ 0 (by omega)⟩, fun h => by omega⟩
    · rcases ga with ga | ⟨ga, hG⟩
      · exact absurd ga hne
      · exact ⟨hqn hne, _, by rw [hq]; exact ga, .base (.cells (by rw [hG]; exact RenVs.closed (flatG_below (outG_below d outs) _))), fun h => by omega, fun _ => rfl⟩
  refine ⟨fun id o h => ?_, fun i j oi oj hi hj hij pi pj hpi hpj => ?_⟩
  · obtain ⟨k1, o1, k2, k3, _⟩ := robj id o h
    exact ⟨k1, o1, k2, k3⟩
  · obtain ⟨_, o1, a2, _, a4, a5⟩ := robj i oi hi
    obtain ⟨_, o2, b2, _, b4, b5⟩ := robj j oj hj
    rw [show (⟨h1, n1⟩ : St).h = h1 from rfl] at hpi hpj
    rw [a2] at hpi; cases hpi
    rw [b2] at hpj; cases hpj
    by_cases hi6 : i ≤ 6
    · obtain ⟨f1, s1⟩ := a4 hi6
      refine ⟨?_, fun ⟨f, k1, _⟩ => by rw [f1] at k1; cases k1⟩
      by_cases hj6 : j ≤ 6
      · obtain ⟨_, s2⟩ := b4 hj6
        omega
      · obtain rfl := b5 (by omega)
        omega
    · obtain rfl := a5 (by omega)
      by_cases hj6 : j ≤ 6
      · obtain ⟨f2, s2⟩ := b4 hj6
        exact ⟨by omega, fun ⟨f, _, k2⟩ => by rw [f2] at k2; cases k2⟩
      · obtain rfl := b5 (by omega)
        exact absurd rfl hij
def stKq (d : DayD) (a : Pr) (h : Hp) (n : Nat) : Prop := 55 ≤ n ∧ ∃ q, h = stH d (outsV q a.outs.length) (mapE mkV a.E) a.cl (outsH d q a.outs) ∧ 55 ≤ q ∧ (a.outs = [] ∨ q < n)
def sgm (m n2 n id : Nat) : Nat := if id ≤ 6 then id else if id < n then n2 + id else m
theorem st_core (d : DayD) (gd : d.Good) (f : Nat → Int) (hf : ∀ m, m < d.nw + d.nl → d.ulo m ≤ f m ∧ f m ≤ d.uhi m) (a : Pr) (hlen : a.outs.length < 100000) (h : Hp) (n : Nat) (hK : stKq d a h n) :
    YieldW Try.prog 6 [truE f d.nw d.nl] ⟨h, n⟩ (fun v st' => v = .lit (.bool true) ∧ stKq d (a.next d f) st'.h st'.n) := by
  obtain ⟨hn, q, rfl, hq, hqn⟩ := hK
  have htab : ∀ id, id ≤ 6 → tabR [(7, q)] id = id := fun id hid => by
    have : Nat.beq 7 id = false := by rw [← Bool.not_eq_true]; intro e; have := Nat.eq_of_beq_eq_true e; omega
    simp only [tabR, this]
  refine YieldW.canon (ρ := tabR [(7, q)]) (st2 := ⟨stH d (outsV 7 a.outs.length) (mapE mkV a.E) a.cl (outsH d 7 a.outs), 8⟩) (htab 6 (by omega)) (by show 6 < 8; omega) (fun x hx => by
    obtain rfl := List.mem_singleton.1 hx
    exact Below.agg (AllB.ok ⟨intsV_below _ _ _, intsV_below _ _ _, trivial⟩)) ?_ (st_round d gd f hf a hlen) fun v st2' hk => ?_
  · refine stX (fm := none) (G := outA d a.outs) _ htab (m := q) (by omega) (by rfl) (by omega) (fun _ => by omega) (by omega) rfl rfl rfl rfl rfl rfl rfl ?_
    cases ho : a.outs with
    | nil => exact .inl rfl
    | cons f0 l =>
      refine .inr ⟨?_, rfl⟩
      show Hp.get (stH d _ _ _ [(q, .cells none false (outA d (f0 :: l)))]) q = _
      simp only [stH, chB, List.cons_append, List.nil_append, Hp.get]
      rw [if_neg (by omega), if_neg (by omega), if_neg (by omega), if_neg (by omega), if_neg (by omega), if_neg (by omega), if_neg (by omega)]
      simp
  · obtain ⟨rfl, m, n2, G, fm, h2, rfl, hn2, k6, k5, k4, k3, k2, k1, k0, ka⟩ := hk
    obtain ⟨b, hb⟩ : ∃ b, a.next d f = b := ⟨_, rfl⟩
    rw [hb] at k3 k2 ka
    rw [hb]
    by_cases ho : b.outs = []
    · refine ⟨⟨⟨stH d (outsV n b.outs.length) (mapE mkV b.E) b.cl (outsH d n b.outs), n + 1⟩, sgm 7 n2 n, ⟨rfl, by show 55 ≤ n + 1; omega, n, rfl, hn, .inl ho⟩, Below.lit, by show n ≤ n + 1; omega, ?_, fun id hid => ?_⟩⟩
      · refine stX (fm := none) (G := []) (sgm 7 n2 n) (fun id hid => if_pos hid) (m := 7) (by omega) ?_ (by omega) (fun hne => absurd ho hne) (by omega) k6 k5 k4 (by rw [ho] at k3 ⊢; exact k3) k2 k1 k0 (.inl ho)
        show (if n ≤ 6 then n else if n < n then n2 + n else 7) = 7
        rw [if_neg (by omega), if_neg (by omega)]
      · by_cases h6 : id ≤ 6
        · exact .inl ⟨if_pos h6, htab id h6, by show id < 8; omega⟩
        · refine .inr ?_
          show (if id ≤ 6 then id else if id < n then n2 + id else 7) = n2 + id
          rw [if_neg h6, if_pos hid]
    · obtain ⟨hm7, hmn, hma, hG⟩ := ka.resolve_left ho
      refine ⟨⟨⟨stH d (outsV n b.outs.length) (mapE mkV b.E) b.cl (outsH d n b.outs), n + 1⟩, sgm m n2 n, ⟨rfl, by show 55 ≤ n + 1; omega, n, rfl, hn, .inr (by show n < n + 1; omega)⟩, Below.lit, by show n ≤ n + 1; omega, ?_, fun id hid => ?_⟩⟩
      · refine stX (sgm m n2 n) (fun id hid => if_pos hid) (m := m) hm7 ?_ (by omega) (fun _ => by omega) (by omega) k6 k5 k4 k3 k2 k1 k0 (.inr ⟨hma, hG⟩)
        show (if n ≤ 6 then n else if n < n then n2 + n else m) = m
        rw [if_neg (by omega), if_neg (by omega)]
      · by_cases h6 : id ≤ 6
        · exact .inl ⟨if_pos h6, htab id h6, by show id < 8; omega⟩
        · refine .inr ?_
          show (if id ≤ 6 then id else if id < n then n2 + id else m) = n2 + id
          rw [if_neg h6, if_pos hid]
theorem stKq_ids {d : DayD} {a : Pr} {h : Hp} {n : Nat} (hK : stKq d a h n) : 49 ≤ n ∧ ∀ id o, h.get id = some o → id < n ∧ (id < 49 ∨ 55 ≤ id) := by
  obtain ⟨hn, q, rfl, hq, hqn⟩ := hK
  refine ⟨by omega, fun id o ho => ?_⟩
  rcases stH_get ho with ⟨h, _⟩ | ⟨h, _⟩ | ⟨h, _⟩ | ⟨h, _⟩ | ⟨h, _⟩ | ⟨h, _⟩ | ⟨h, _⟩ | ⟨h, hne, _⟩
  all_goals try omega
  have := hqn.resolve_left hne
  omega
theorem stKq_own {d : DayD} {a : Pr} {h : Hp} {n : Nat} (hK : stKq d a h n) : ∀ id o, h.get id = some o → o.own = true := fun id o ho => by
  obtain ⟨_, q, rfl, _, _⟩ := hK
  rcases stH_get ho with ⟨_, h⟩ | ⟨_, h⟩ | ⟨_, h⟩ | ⟨_, h⟩ | ⟨_, h⟩ | ⟨_, h⟩ | ⟨_, h⟩ | ⟨_, _, h⟩ <;> rw [h] <;> rfl
theorem st_frame (d : DayD) (gd : d.Good) (f : Nat → Int) (hf : ∀ m, m < d.nw + d.nl → d.ulo m ≤ f m ∧ f m ≤ d.uhi m) (a : Pr) (hlen : a.outs.length < 100000) (h : Hp) (n : Nat) (hK : stKq d a h n) (R : Hp) (hR : ∀ p ∈ R, (49 ≤ p.1 ∧ p.1 < 55) ∧ p.2.own = true ∧ p.2.fam = none) :
    YieldW Try.prog 6 [truE f d.nw d.nl] ⟨R ++ h, n⟩ (fun v st' => v = .lit (.bool true) ∧ ∃ h' n', st' = ⟨R ++ h', n'⟩ ∧ stKq d (a.next d f) h' n') := by
  have hids := stKq_ids hK
  have ha : Apart R ⟨h, n⟩ := ⟨fun id o ho => (hR _ (Hp.mem_of_get ho)).2.1, fun id o ho => by
    cases hg : Hp.get h id with
    | none => rfl
    | some o' =>
      have h1 := (hids.2 id o' hg).2
      have h2 : 49 ≤ id ∧ id < 55 := (hR _ (Hp.mem_of_get ho)).1
      omega, fun i j oi oj hi _ ⟨f, k1, _⟩ => by
    have h2 : oi.fam = none := (hR _ (Hp.mem_of_get hi)).2.2
    rw [h2] at k1; cases k1⟩
  refine (YieldW.frame ha (st_core d gd f hf a hlen h n hK) fun v st' hk id o ho => .inl (stKq_own hk.2 id o ho)).mono fun v s hs => ?_
  obtain ⟨st', ⟨hv, hk⟩, rfl⟩ := hs
  exact ⟨hv, st'.h, st'.n, rfl, hk⟩
end Go.Fz
namespace Go.Fz
open Go.Proofs
set_option maxRecDepth 100000
section
variable {α : Type} (next : α → (Nat → Int) → α) (len : α → Nat) (N : Nat) (lo hi : Nat → Int)
def cntE : Nat → Nat → Nat
  | 0, _ => 1
  | j + 1, i => (hi i - lo i + 1).toNat * cntE j (i + 1)
theorem foldV_len {F : Int → α → α} {b : Nat} (h : ∀ v a, len (F v a) ≤ len a + b) (l : Int) (a : α) : ∀ c, len (foldV F l c a) ≤ len a + c * b
  | 0 => by show len a ≤ _; omega
  | c + 1 => by
    have h1 := h (l + c) (foldV F l c a)
    have h2 := foldV_len h l a c
    show len (F _ _) ≤ _
    rw [Nat.succ_mul]; omega
theorem foldE_len (hs : ∀ a f, len (next a f) ≤ len a + 1) : ∀ (j i : Nat) (f : Nat → Int) (a : α), len (foldE next N lo hi j i f a) ≤ len a + cntE lo hi j i
  | 0, _, _, a => hs a _
  | j + 1, i, _, a => foldV_len len (fun _ a => foldE_len hs j (i + 1) _ a) (lo i) a _
theorem allE_len (hs : ∀ a f, len (next a f) ≤ len a + 1) (M : Nat) : ∀ (j i : Nat) (f : Nat → Int) (a : α), len a + cntE lo hi j i ≤ M → allE (fun a => len a < M) next N lo hi j i f a
  | 0, i, f, a, h => by
    have : cntE lo hi 0 i = 1 := rfl
    show len a < M
    omega
  | j + 1, i, f, a, h => fun c hc => by
    refine allE_len hs M j (i + 1) _ _ ?_
    have h1 := foldV_len len (fun v a => foldE_len next len N lo hi hs j (i + 1) (setI f i v) a) (lo i) a c
    have h2 : cntE lo hi (j + 1) i = (hi i - lo i + 1).toNat * cntE lo hi j (i + 1) := rfl
    have h3 : (c + 1) * cntE lo hi j (i + 1) ≤ (hi i - lo i + 1).toNat * cntE lo hi j (i + 1) := Nat.mul_le_mul_right _ hc
    rw [Nat.succ_mul] at h3
    omega
theorem prN_all (M : Nat) (hb : ∀ m, m < M → 0 ≤ lo m ∧ lo m ≤ hi m ∧ hi m ≤ 5000) (h : manyB lo hi M = false) : ∀ i, i ≤ M → 1 ≤ prN lo hi i ∧ prN lo hi i ≤ 2000 ∧ (∀ i', i = i' + 1 → prN lo hi i = prN lo hi i' * (hi i' - lo i' + 1))
  | 0, _ => ⟨Int.le_refl 1, by show (1 : Int) ≤ 2000; omega, fun _ e => by cases e⟩
  | i + 1, hi' => by
    have h1 := prN_all M hb h i (by omega)
    have h2 : prN lo hi (i + 1) ≤ 2000 := by
      have : allN M (fun i => decide (prN lo hi (i + 1) ≤ 2000)) = true := by simpa [manyB] using h
      have := of_decide_eq_true this i (by omega)
      simpa using this
    have h3 := hb i (by omega)
    have h4 : size64 (lo i) (hi i) = hi i - lo i + 1 := by
      unfold size64
      rw [show sub64 (hi i) (lo i) = hi i - lo i from sub64_in _ _ (by omega) (by omega), add64_in _ _ (by omega) (by omega)]
    have h5 : 0 ≤ prN lo hi i * (hi i - lo i + 1) := Int.mul_nonneg (by omega) (by omega)
    have h6 : prN lo hi i * (hi i - lo i + 1) ≤ 2000 * 5001 := Int.mul_le_mul h1.2.1 (by omega) (by omega) (by omega)
    have h7 : prN lo hi (i + 1) = prN lo hi i * (hi i - lo i + 1) := by
      show mul64 (prN lo hi i) (size64 (lo i) (hi i)) = _
      rw [h4, mul64_in _ _ (by omega) (by omega)]
    have h8 : 1 * 1 ≤ prN lo hi i * (hi i - lo i + 1) := Int.mul_le_mul h1.1 (by omega) (by omega) (by omega)
    exact ⟨by rw [h7]; omega, h2, fun i' e => by cases e; exact h7⟩
theorem cntE_prN (M : Nat) (hb : ∀ m, m < M → 0 ≤ lo m ∧ lo m ≤ hi m ∧ hi m ≤ 5000) (h : manyB lo hi M = false) : ∀ j i, i + j = M → prN lo hi i * (cntE lo hi j i : Int) = prN lo hi M
  | 0, i, e => by
    obtain rfl : i = M := by omega
    show prN lo hi i * ((1 : Nat) : Int) = _
    omega
  | j + 1, i, e => by
    have h1 := cntE_prN M hb h j (i + 1) (by omega)
    have h2 := (prN_all lo hi M hb h (i + 1) (by omega)).2.2 i rfl
    have h3 := hb i (by omega)
    show prN lo hi i * (((hi i - lo i + 1).toNat * cntE lo hi j (i + 1) : Nat) : Int) = _
    rw [Int.natCast_mul, Int.toNat_of_nonneg (by omega), ← Int.mul_assoc, ← h2, h1]
end
def stNx (d : DayD) (a : Pr) (f : Nat → Int) : Pr := a.next d f
theorem check_many {d : DayD} (h : d.check = 0) : manyB d.ulo d.uhi (d.nw + d.nl) = false := by
  unfold DayD.check at h
  split at h
  · omega
  · split at h
    · split at h
      · omega
      · rename_i hm; simpa using hm
    · omega
theorem cnt_small {d : DayD} (h : d.check = 0) : cntE d.ulo d.uhi (d.nw + d.nl) 0 ≤ 2000 := by
  have gd := good_of_check h
  have h1 := cntE_prN d.ulo d.uhi (d.nw + d.nl) (unk_in gd) (check_many h) (d.nw + d.nl) 0 (by omega)
  have h2 := (prN_all d.ulo d.uhi (d.nw + d.nl) (unk_in gd) (check_many h) (d.nw + d.nl) (Nat.le_refl _)).2.1
  have h3 : prN d.ulo d.uhi 0 = 1 := rfl
  rw [h3, Int.one_mul] at h1
  omega
theorem next_len (d : DayD) (a : Pr) (f : Nat → Int) : (stNx d a f).outs.length ≤ a.outs.length + 1 := by
  unfold stNx Pr.next
  simp only
  split
  · rw [List.length_append, List.length_singleton]
    exact Nat.le_refl _
  · omega
def pr0 : Pr := ⟨[], 0, []⟩
def DayD.seen (d : DayD) : Pr := foldE (stNx d) (d.nw + d.nl) d.ulo d.uhi (d.nw + d.nl) 0 (fun _ => 0) pr0
theorem cutF_in {d : DayD} {nums : Nat → Int} (h : ∀ m, m < d.nw + d.nl → d.ulo m ≤ nums m ∧ nums m ≤ d.uhi m) : ∀ m, m < d.nw + d.nl → d.ulo m ≤ cutF (d.nw + d.nl) nums m ∧ cutF (d.nw + d.nl) nums m ≤ d.uhi m := fun m hm => by
  unfold cutF; rw [if_pos hm]; exact h m hm
theorem chO_ok (y N nw : Nat) (lo hi : Nat → Int) (G : List AV) : ∀ p ∈ chO y N nw lo hi G, (49 ≤ p.1 ∧ p.1 < 55) ∧ p.2.own = true ∧ p.2.fam = none := fun p hp => by
  simp only [chO, List.mem_cons, List.not_mem_nil, or_false] at hp
  rcases hp with rfl | rfl | rfl | rfl | rfl | rfl <;> exact ⟨by simp, rfl, rfl⟩
theorem chOs_ok (y N nw : Nat) (lo hi : Nat → Int) (G : List AV) : ∀ p ∈ chOs y N nw lo hi G, (49 ≤ p.1 ∧ p.1 < 55) ∧ p.2.own = true ∧ p.2.fam = none := fun p hp => by
  simp only [chOs, List.mem_cons, List.not_mem_nil, or_false] at hp
  rcases hp with rfl | rfl | rfl | rfl | rfl | rfl <;> exact ⟨by simp, rfl, rfl⟩
theorem choices_start (d : DayD) (hc : d.check = 0) :
    CallW Try.prog 122 [.yld 6, .ptr 4 0] ⟨stH d nl3 [] 0 [], 7⟩ (fun _ st' => ∃ h n, st' = ⟨h, n⟩ ∧ stKq d d.seen h n) := by
  have gd := good_of_check hc
  refine choices1_ok (fun a : Pr => a.outs.length < 100000) (stKq d) (stNx d) d gd (.loop stR) _ pr0 (fun a h n hK => stKq_ids hK) ⟨Nat.le_refl _, 55, rfl, Nat.le_refl _, .inl rfl⟩
    (allE_len (stNx d) (fun a => a.outs.length) _ _ _ (fun a f => next_len d a f) 100000 _ _ _ _ (by have := cnt_small hc; show 0 + _ ≤ _; omega)) ?_ ?_
  · intro nums a h n hin hok hK
    exact (st_frame d gd _ (cutF_in hin) a hok h n hK _ (chO_ok 6 (d.nw + d.nl) d.nw d.ulo d.uhi (flatG 1 (intC nums) (d.nw + d.nl)))).mono fun v st' ⟨hv, h', n', hst, hk⟩ => .inl ⟨hv, nums, h', n', rfl, hst, hk⟩
  · intro nums a h n hin hok hK
    exact (st_frame d gd _ (cutF_in hin) a hok h n hK _ (chOs_ok 6 (d.nw + d.nl) d.nw d.ulo d.uhi (flatG 1 (intC nums) (d.nw + d.nl)))).mono fun v st' ⟨hv, h', n', hst, hk⟩ => .inl ⟨hv, nums, h', n', rfl, hst, hk⟩
end Go.Fz
