/- Own work of the verifier of watercress: FzD8, FzB18, FzB43, FzD9, FzD10, FzD11, FzK3, FzG7, FzK4, FzK5. -/
import Derived.Test.YtpefamheopplnaaMf21
import Derived.Test.YtpefamheopplnaaMf14
import Derived.Test.YtpefamheopplnaaMf10
import Derived.Test.YtpefamheopplnaaMf13
import Derived.Test.YtpefamheopplnaaMf12
set_option linter.unusedVariables false
set_option linter.unusedSimpArgs false
namespace Go.Fz
open Go.Proofs
set_option maxRecDepth 100000
section
theorem WeakR.tabG {n0 : Nat} {tb : List (Nat × Nat)} {f1 : Fm} {st1 : St} {l : List (Nat × AV)} {len : Nat} {dm : List Nat} {h2 : Hp} {n2 : Nat} (F : Nat → Option Nat) (hF : ∀ i j f, F i = some f → F j = some f → i = j) (e1 : len = f1.ts.len) (e2 : dm = f1.dm) (e3 : ∀ id ∈ dm, id < n0) (hid : (tb.all fun p => Nat.ble n0 p.1) = true) (lo : n0 ≤ n2)
    (hinj : (h2.all fun p => h2.all fun q => !(Nat.beq (tabR tb p.1) (tabR tb q.1)) || Nat.beq p.1 q.1) = true)
    (get : AllP (fun p => RenV (tabR tb) n2 p.2 (f1.ts.get p.1)) l) (obj : AllP (fun p => p.1 < n2 ∧ ∃ o1, st1.h.get (tabR tb p.1) = some o1 ∧ RenO (tabR tb) n2 p.2 o1 ∧ o1.fam = F p.1) h2) : WeakR n0 (tabR tb) f1 st1 ⟨⟨len, getT l⟩, dm⟩ ⟨h2, n2⟩ := by
  have ho := obj.ok
  have hj := inj_of hinj
  refine ⟨e1, e2, e3, tabR_id hid, fun i => ?_, lo, fun id o h => ?_, fun i j oi oj hi hj' hij pi pj h1 h2 => ⟨fun h => hij ?_, fun ⟨f, k1, k2⟩ => ?_⟩⟩
  · show RenV _ n2 (getT l i) _
    have hg := get.ok
    clear get obj ho hj hinj
    induction l with
    | nil => exact RenV.any
    | cons p r ih =>
      obtain ⟨j, a⟩ := p
      simp only [getT]
      cases hb : Nat.beq j i with
      | true =>
        obtain rfl := Nat.eq_of_beq_eq_true hb
        exact hg _ List.mem_cons_self
      | false => exact ih fun q hq => hg q (List.mem_cons_of_mem _ hq)
  · obtain ⟨h3, o1, h4, h5, _⟩ := ho _ (Hp.mem_of_get h)
    exact ⟨h3, o1, h4, h5⟩
  · exact hj _ (Hp.mem_of_get hi) _ (Hp.mem_of_get hj') h
  · obtain ⟨_, o1, h3, _, h4⟩ := ho _ (Hp.mem_of_get hi)
    obtain ⟨_, o2, h5, _, h6⟩ := ho _ (Hp.mem_of_get hj')
    rw [show tabR tb (i, oi).1 = tabR tb i from rfl, h1] at h3
    rw [show tabR tb (j, oj).1 = tabR tb j from rfl, h2] at h5
    cases h3; cases h5
    exact hij (hF i j f (h4.symm.trans k1) (h6.symm.trans k2))
end
theorem keys60 (m : Nat) (st : St) : CallW Try.prog 60 [.mp m] st (fun v st' => v = .fn (.func 99) [] [.ptr st.n 0] ∧ st' = st.push (.cells none false [.mp m])) := by
  obtain ⟨O, hO⟩ : ∃ O : Ar, O = std := ⟨_, rfl⟩
  refine callW_of_body tok Try.func60 rfl ?_
  refine SW.seqRun tok hO (by cbv <;> rfl) (by trivial) ?_
  refine SW.seqRun tok hO (by cbv <;> rfl) (by trivial) ?_
  exact SW.ret ⟨_, _, rfl, rfl, rfl, rfl⟩
theorem values64 (L : Nat) (G : Nat → Nat → AV) (st : St) : CallW Try.prog 64 [.isl L 8 false G] st (fun v st' => v = .fn (.func 100) [] [.ptr st.n 0] ∧ st' = st.push (.cells none false [.isl L 8 false G])) := by
  obtain ⟨O, hO⟩ : ∃ O : Ar, O = std := ⟨_, rfl⟩
  refine callW_of_body tok Try.func64 rfl ?_
  refine SW.seqRun tok hO (by cbv <;> rfl) (by trivial) ?_
  refine SW.seqRun tok hO (by cbv <;> rfl) (by trivial) ?_
  exact SW.ret ⟨_, _, rfl, rfl, rfl, rfl⟩
structure WomanE (d : DayD) (Y : AV) (lo0 hi0 lo1 hi1 lo2 hi2 : Nat → Int) (w : Nat) (ME : List (AV × AV × Nat)) (c : Nat) : Prop where
  cl : ∀ x ∈ ME, Below 0 x.1 ∧ Below 0 x.2.1
  had : ∀ st, CallW Try.prog 58 [.agg [iV d.hand, iV d.flat, womsV d, lotsV d, cntsV d, Y, .mp 2], iV w] st (fun v st' => v = .mp st.n ∧ st' = st.push (.map ME c))
  e61 : ∀ {st : St} {mid bid : Nat} {fm : Option Nat} {ro : Bool}, st.h.get mid = some (.map ME c) → st.h.get bid = some (.cells fm ro [.mp mid]) → CallW Try.prog 59 [.fn (.func 99) [] [.ptr bid 0], .fn (.func 61) [] []] st (fun v st' => v = rangeV (lo0 w) (hi0 w) ∧ st' = st)
  e62 : ∀ {st : St} {mid bid : Nat} {fm : Option Nat} {ro : Bool}, st.h.get mid = some (.map ME c) → st.h.get bid = some (.cells fm ro [.mp mid]) → CallW Try.prog 59 [.fn (.func 99) [] [.ptr bid 0], .fn (.func 62) [] []] st (fun v st' => v = rangeV (lo1 w) (hi1 w) ∧ st' = st)
  e63 : ∀ {st : St} {mid bid : Nat} {fm : Option Nat} {ro : Bool}, st.h.get mid = some (.map ME c) → st.h.get bid = some (.cells fm ro [.mp mid]) → CallW Try.prog 59 [.fn (.func 99) [] [.ptr bid 0], .fn (.func 63) [] []] st (fun v st' => v = rangeV (lo2 w) (hi2 w) ∧ st' = st)
def TotalE (Y : AV) (g : FuncId) (lo hi : Int) : Prop := ∀ {st : St} {bid : Nat} {fm : Option Nat} {ro : Bool}, st.h.get bid = some (.cells fm ro [Y]) → CallW Try.prog 65 [.fn (.func 100) [] [.ptr bid 0], .fn (.func g) [] []] st (fun v st' => v = rangeV lo hi ∧ st' = st)
def bndC (nw : Nat) (lo0 hi0 lo1 hi1 lo2 hi2 : Nat → Int) (p q r s t u v w : Int) : List AV := [.isl nw 2 false (rngC lo0 hi0), .isl nw 2 false (rngC lo1 hi1), .isl nw 2 false (rngC lo2 hi2), iV p, iV q, iV r, iV s, iV t, iV u, iV v, iV w]
def bnd0 : List AV := [nl3, nl3, nl3, iV 0, iV 0, iV 0, iV 0, iV 0, iV 0, iV 0, iV 0]
def bndS (A B C : AV) : List AV := [A, B, C, iV 0, iV 0, iV 0, iV 0, iV 0, iV 0, iV 0, iV 0]
theorem rngC_below (lo hi : Nat → Int) (i k : Nat) : Below 0 (rngC lo hi i k) := by unfold rngC; split <;> exact Below.lit
def F567 (j : Nat) : Option Nat := if j = 5 ∨ j = 6 ∨ j = 7 then some j else none
theorem F567_inj : ∀ i j f, F567 i = some f → F567 j = some f → i = j := fun i j f hi hj => by
  unfold F567 at hi hj
  split at hi
  · split at hj
    · cases hi; cases hj; rfl
    · cases hj
  · cases hi
set_option maxHeartbeats 64000000 in
theorem bounds_core (d : DayD) (hpos : 0 < d.nw) (hnw : d.nw ≤ 4) (L : Nat) (G : Nat → Nat → AV) (hY : Below 0 (.isl L 8 false G)) (ME : List (AV × AV × Nat)) (cl : Nat)
    (lo0 hi0 lo1 hi1 lo2 hi2 : Nat → Int) (p q r s t u v w : Int)
    (e2 : Fresh Try.prog 57 [dayV d, .lit (.bool true)] (fun k => .tup [.agg [iV d.hand, iV d.flat, womsV d, lotsV d, cntsV d, .isl L 8 false G, .mp k], iV 0]) ME cl)
    (hw : ∀ i, i < d.nw → ∃ M c, WomanE d (.isl L 8 false G) lo0 hi0 lo1 hi1 lo2 hi2 i M c)
    (h66 : TotalE (.isl L 8 false G) 66 p q) (h67 : TotalE (.isl L 8 false G) 67 r s) (h68 : TotalE (.isl L 8 false G) 68 t u) (h69 : TotalE (.isl L 8 false G) 69 v w) :
    Pure Try.prog 18 [dayV d] (.tup [.agg (bndC d.nw lo0 hi0 lo1 hi1 lo2 hi2 p q r s t u v w), iV 0]) := by
  obtain ⟨O, hO⟩ : ∃ O : Ar, O = std := ⟨_, rfl⟩
  have hnat : ∀ i : Nat, O.nat (Int.ofNat i) = i := fun i => by subst hO; rfl
  have hcells : ∀ x ∈ [iV d.hand, iV d.flat, womsV d, lotsV d, cntsV d, .isl L 8 false G], Below 0 x := AllB.ok ⟨Below.lit, Below.lit, womsV_below d, lotsV_below d, cntsV_below d, hY, trivial⟩
  refine pure_of_body tok 5 Try.func18 en18 rfl ⟨dayV_below d, trivial⟩ (Below.tup (AllB.ok ⟨Below.agg (AllB.ok ⟨Below.isl fun i k _ _ => rngC_below _ _ i k, Below.isl fun i k _ _ => rngC_below _ _ i k, Below.isl fun i k _ _ => rngC_below _ _ i k, Below.lit, Below.lit, Below.lit, Below.lit, Below.lit, Below.lit, Below.lit, Below.lit, trivial⟩), Below.lit, trivial⟩)) ?_
  refine SW.seqRun tok hO (by cbv <;> rfl) (by trivial) ?_
  refine SW.seq (SW.runN tok hO 1 (by cbv <;> rfl) (by trivial) ?_)
  refine OpsW.callS e2.ent (e2.call _) (by cbv <;> rfl) fun v1 st' hk => ?_
  obtain ⟨rfl, rfl⟩ := hk
  refine OpsW.run tok hO (by cbv <;> rfl) (by trivial) ?_
  refine SW.seq ?_
  refine SW.seqRun tok hO (by cbv <;> rfl) (by trivial) ?_
  refine SW.condS (by cbv <;> rfl) (fun h1 => ?_) (fun h1 => SW.skip ?_)
  · exfalso
    subst hO; simp [std] at h1
  refine SW.seqRun tok hO (by cbv <;> rfl) (by trivial) ?_
  refine SW.seq ?_
  refine SW.seqRun tok hO (by cbv <;> rfl) (by trivial) ?_
  refine (SW.block (SW.loopR (fun i : Nat => ⟨⟨70, getT [(2, .ptr 1 0), (4, .ptr 3 0), (6, .ptr 4 0), (22, iV d.nw), (23, iV i)]⟩, []⟩)
    (fun i => ⟨[(4, .cells none false (bndS (slG 5 2 i) (slG 6 2 i) (slG 7 2 i))), (3, .cells none false [iV d.hand, iV d.flat, womsV d, lotsV d, cntsV d, .isl L 8 false G, .mp 2]), (1, .cells none false bnd0)] ++ (objG 5 2 (rngC lo0 hi0) i ++ (objG 6 2 (rngC lo1 hi1) i ++ objG 7 2 (rngC lo2 hi2) i)), 8⟩) (fun i => d.nw - i) (fun i => i ≤ d.nw) 0 (Nat.zero_le _) (tabR []) ?_ fun i hi => ?_))
  · exact WeakR.tabG (fun _ => none) (fun _ _ _ h => nomatch h) rfl rfl (by simp) (by rfl) (by show 5 ≤ 8; omega) (by rfl) ⟨RenV.ptr (by omega), RenV.ptr (by omega), RenV.ptr (by omega), RenV.closed Below.lit, RenV.closed Below.lit, trivial⟩
      ⟨⟨by omega, _, rfl, .cells (.cons (RenV.closed Below.lit) (.cons (RenV.closed Below.lit) (.cons (RenV.closed Below.lit) (.cons (RenV.closed Below.lit) (.cons (RenV.closed Below.lit) (.cons (RenV.closed Below.lit) (.cons (RenV.closed Below.lit) (.cons (RenV.closed Below.lit) (.cons (RenV.closed Below.lit) (.cons (RenV.closed Below.lit) (.cons (RenV.closed Below.lit) .nil))))))))))), rfl⟩,
        ⟨by omega, _, rfl, .cells (.cons (RenV.closed Below.lit) (.cons (RenV.closed Below.lit) (.cons (RenV.closed (womsV_below d)) (.cons (RenV.closed (lotsV_below d)) (.cons (RenV.closed (cntsV_below d)) (.cons (RenV.closed hY) (.cons (RenV.mp (by omega)) .nil))))))), rfl⟩,
        ⟨by omega, _, rfl, .cells (RenVs.closed (AllB.ok ⟨Below.lit, Below.lit, Below.lit, Below.lit, Below.lit, Below.lit, Below.lit, Below.lit, Below.lit, Below.lit, Below.lit, trivial⟩)), rfl⟩, trivial⟩
  cases i with
  | zero =>
    refine SW.seqRun tok hO (by cbv <;> rfl) (by trivial) ?_
    refine SW.seq (SW.condS (by cbv <;> rfl) (fun h => SW.skip ?_) (fun h => ?_))
    · obtain ⟨M, c, HW⟩ := hw 0 hpos
      have k61 := fun {st : St} {mid bid : Nat} {fm : Option Nat} {ro : Bool} (h1 : st.h.get mid = some (.map M c)) (h2 : st.h.get bid = some (.cells fm ro [.mp mid])) => HW.e61 h1 h2
      have k62 := fun {st : St} {mid bid : Nat} {fm : Option Nat} {ro : Bool} (h1 : st.h.get mid = some (.map M c)) (h2 : st.h.get bid = some (.cells fm ro [.mp mid])) => HW.e62 h1 h2
      have k63 := fun {st : St} {mid bid : Nat} {fm : Option Nat} {ro : Bool} (h1 : st.h.get mid = some (.map M c)) (h2 : st.h.get bid = some (.cells fm ro [.mp mid])) => HW.e63 h1 h2
      have khad := HW.had
      obtain ⟨a0, ha0⟩ : ∃ x, lo0 0 = x := ⟨_, rfl⟩
      obtain ⟨b0, hb0⟩ : ∃ x, hi0 0 = x := ⟨_, rfl⟩
      obtain ⟨a1, ha1⟩ : ∃ x, lo1 0 = x := ⟨_, rfl⟩
      obtain ⟨b1, hb1⟩ : ∃ x, hi1 0 = x := ⟨_, rfl⟩
      obtain ⟨a2, ha2⟩ : ∃ x, lo2 0 = x := ⟨_, rfl⟩
      obtain ⟨b2, hb2⟩ : ∃ x, hi2 0 = x := ⟨_, rfl⟩
      rw [ha0, hb0] at k61
      rw [ha1, hb1] at k62
      rw [ha2, hb2] at k63
      refine SW.seq (SW.block ?_)
      refine SW.seqRun tok hO (by cbv <;> rfl) (by trivial) ?_
      refine SW.seq (SW.runN tok hO 2 (by cbv <;> rfl) (by trivial) ?_)
      refine OpsW.callS en58 (khad _) (by cbv <;> rfl) fun v1 st' hk => ?_
      obtain ⟨rfl, rfl⟩ := hk
      refine OpsW.run tok hO (by cbv <;> rfl) (by trivial) ?_
      refine SW.seqRunD tok mixed hO (by rfl) (by cbv <;> rfl) (by trivial) ?_
      refine AnyE.many [3] (by cbv <;> rfl) (by rfl) ⟨?_, trivial⟩
      refine PickE.callE en60 (keys60 8 _) (by cbv <;> rfl) (by cbv <;> rfl) fun r st' hk => ?_
      obtain ⟨rfl, rfl⟩ := hk
      refine ⟨(by repeat (first | exact trivial | refine And.intro (by first | exact lv_of hO (by cbv <;> rfl) (by trivial) | (cbv <;> rfl)) ?_)), ?_⟩
      refine AnyE.run tok hO (by rfl) (by cbv <;> rfl) (by trivial) ?_
      refine AnyE.callS en59 (k61 rfl rfl) (by cbv <;> rfl) (by cbv <;> rfl) ?_
      refine AnyE.run tok hO (by rfl) (by cbv <;> rfl) (by trivial) ?_
      refine AnyE.effK tok hO (by cbv <;> rfl) (by cbv <;> rfl) (by trivial) ?_ ?_
      · exact (by repeat (first | exact trivial | refine And.intro (by first | exact lv_of hO (by cbv <;> rfl) (by trivial) | (cbv <;> rfl)) ?_))
      refine AnyE.run tok hO (by rfl) (by cbv <;> rfl) (by trivial) ?_
      refine AnyE.appNil tok (by cbv <;> rfl) (by cbv <;> rfl) (by rfl) (by kernel_rfl) (by rfl) (by rfl) ?_
      refine AnyE.run tok hO (by rfl) (by cbv <;> rfl) (by trivial) ?_
      refine AnyE.eff tok hO (by cbv <;> rfl) (by cbv <;> rfl) (by trivial) ?_
      refine AnyE.done (by rfl) ?_
      refine SW.seqRunD tok mixed hO (by rfl) (by cbv <;> rfl) (by trivial) ?_
      refine AnyE.many [3] (by cbv <;> rfl) (by rfl) ⟨?_, trivial⟩
      refine PickE.callE en60 (keys60 8 _) (by cbv <;> rfl) (by cbv <;> rfl) fun r st' hk => ?_
      obtain ⟨rfl, rfl⟩ := hk
      refine ⟨(by repeat (first | exact trivial | refine And.intro (by first | exact lv_of hO (by cbv <;> rfl) (by trivial) | (cbv <;> rfl)) ?_)), ?_⟩
      refine AnyE.run tok hO (by rfl) (by cbv <;> rfl) (by trivial) ?_
      refine AnyE.callS en59 (k62 rfl rfl) (by cbv <;> rfl) (by cbv <;> rfl) ?_
      refine AnyE.run tok hO (by rfl) (by cbv <;> rfl) (by trivial) ?_
      refine AnyE.effK tok hO (by cbv <;> rfl) (by cbv <;> rfl) (by trivial) ?_ ?_
      · exact (by repeat (first | exact trivial | refine And.intro (by first | exact lv_of hO (by cbv <;> rfl) (by trivial) | (cbv <;> rfl)) ?_))
      refine AnyE.run tok hO (by rfl) (by cbv <;> rfl) (by trivial) ?_
      refine AnyE.appNil tok (by cbv <;> rfl) (by cbv <;> rfl) (by rfl) (by kernel_rfl) (by rfl) (by rfl) ?_
      refine AnyE.run tok hO (by rfl) (by cbv <;> rfl) (by trivial) ?_
      refine AnyE.eff tok hO (by cbv <;> rfl) (by cbv <;> rfl) (by trivial) ?_
      refine AnyE.done (by rfl) ?_
      refine SW.runD tok mixed hO (by rfl) (by cbv <;> rfl) (by trivial) ?_
      refine AnyE.many [3] (by cbv <;> rfl) (by rfl) ⟨?_, trivial⟩
      refine PickE.callE en60 (keys60 8 _) (by cbv <;> rfl) (by cbv <;> rfl) fun r st' hk => ?_
      obtain ⟨rfl, rfl⟩ := hk
      refine ⟨(by repeat (first | exact trivial | refine And.intro (by first | exact lv_of hO (by cbv <;> rfl) (by trivial) | (cbv <;> rfl)) ?_)), ?_⟩
      refine AnyE.run tok hO (by rfl) (by cbv <;> rfl) (by trivial) ?_
      refine AnyE.callS en59 (k63 rfl rfl) (by cbv <;> rfl) (by cbv <;> rfl) ?_
      refine AnyE.run tok hO (by rfl) (by cbv <;> rfl) (by trivial) ?_
      refine AnyE.effK tok hO (by cbv <;> rfl) (by cbv <;> rfl) (by trivial) ?_ ?_
      · exact (by repeat (first | exact trivial | refine And.intro (by first | exact lv_of hO (by cbv <;> rfl) (by trivial) | (cbv <;> rfl)) ?_))
      refine AnyE.run tok hO (by rfl) (by cbv <;> rfl) (by trivial) ?_
      refine AnyE.appNil tok (by cbv <;> rfl) (by cbv <;> rfl) (by rfl) (by kernel_rfl) (by rfl) (by rfl) ?_
      refine AnyE.run tok hO (by rfl) (by cbv <;> rfl) (by trivial) ?_
      refine AnyE.eff tok hO (by cbv <;> rfl) (by cbv <;> rfl) (by trivial) ?_
      refine AnyE.done (by rfl) ?_
      refine SW.run tok hO (by cbv <;> rfl) (by trivial) ?_
      refine ⟨1, by omega, by omega, tabR [(5, 11), (6, 14), (7, 17)], ?_⟩
      refine WeakR.tabG (fun _ => none) (fun _ _ _ h => nomatch h) rfl rfl (by simp) (by rfl) (by show 5 ≤ 8; omega) (by rfl) ⟨RenV.ptr (by omega), RenV.ptr (by omega), RenV.ptr (by omega), RenV.closed Below.lit, RenV.inc hO (by omega), trivial⟩
        ⟨⟨by omega, _, rfl, .cells (.cons (RenV.sl (by omega)) (.cons (RenV.sl (by omega)) (.cons (RenV.sl (by omega)) (.cons (RenV.closed Below.lit) (.cons (RenV.closed Below.lit) (.cons (RenV.closed Below.lit) (.cons (RenV.closed Below.lit) (.cons (RenV.closed Below.lit) (.cons (RenV.closed Below.lit) (.cons (RenV.closed Below.lit) (.cons (RenV.closed Below.lit) .nil))))))))))), rfl⟩,
          ⟨by omega, _, rfl, .cells (.cons (RenV.closed Below.lit) (.cons (RenV.closed Below.lit) (.cons (RenV.closed (womsV_below d)) (.cons (RenV.closed (lotsV_below d)) (.cons (RenV.closed (cntsV_below d)) (.cons (RenV.closed hY) (.cons (RenV.mp (by omega)) .nil))))))), rfl⟩,
          ⟨by omega, _, rfl, .cells (RenVs.closed (AllB.ok ⟨Below.lit, Below.lit, Below.lit, Below.lit, Below.lit, Below.lit, Below.lit, Below.lit, Below.lit, Below.lit, Below.lit, trivial⟩)), rfl⟩,
          ⟨by omega, _, rfl, .cells (RenVs.of_eq (by rw [← ha0, ← hb0]; rfl) (flatG_below (rngC_below lo0 hi0) 1)), rfl⟩, ⟨by omega, _, rfl, .cells (RenVs.of_eq (by rw [← ha1, ← hb1]; rfl) (flatG_below (rngC_below lo1 hi1) 1)), rfl⟩, ⟨by omega, _, rfl, .cells (RenVs.of_eq (by rw [← ha2, ← hb2]; rfl) (flatG_below (rngC_below lo2 hi2) 1)), rfl⟩, trivial⟩
    · exfalso
      have : d.nw ≤ 0 := by subst hO; simpa [std] using h
      omega
  | succ i =>
    obtain ⟨G0, hG0⟩ : ∃ G, G = flatG 2 (rngC lo0 hi0) (i + 1) := ⟨_, rfl⟩
    obtain ⟨G1, hG1⟩ : ∃ G, G = flatG 2 (rngC lo1 hi1) (i + 1) := ⟨_, rfl⟩
    obtain ⟨G2, hG2⟩ : ∃ G, G = flatG 2 (rngC lo2 hi2) (i + 1) := ⟨_, rfl⟩
    show SW _ _ _ _ _ ⟨[(4, .cells none false (bndS (.sl 5 0 (i + 1) 2 false) (.sl 6 0 (i + 1) 2 false) (.sl 7 0 (i + 1) 2 false))), (3, .cells none false [iV d.hand, iV d.flat, womsV d, lotsV d, cntsV d, .isl L 8 false G, .mp 2]), (1, .cells none false bnd0)] ++ ([(5, .cells none false (flatG 2 (rngC lo0 hi0) (i + 1)))] ++ ([(6, .cells none false (flatG 2 (rngC lo1 hi1) (i + 1)))] ++ [(7, .cells none false (flatG 2 (rngC lo2 hi2) (i + 1)))])), 8⟩
    rw [← hG0, ← hG1, ← hG2]
    refine SW.seqRun tok hO (by cbv <;> rfl) (by trivial) ?_
    refine SW.seq (SW.condS (by cbv <;> rfl) (fun h => SW.skip ?_) (fun h => ?_))
    · have hlt : i + 1 < d.nw := by
        have : ((i + 1 : Nat) : Int) < (d.nw : Int) := by subst hO; simpa [std] using h
        omega
      obtain ⟨M, c, HW⟩ := hw (i + 1) hlt
      have k61 := fun {st : St} {mid bid : Nat} {fm : Option Nat} {ro : Bool} (h1 : st.h.get mid = some (.map M c)) (h2 : st.h.get bid = some (.cells fm ro [.mp mid])) => HW.e61 h1 h2
      have k62 := fun {st : St} {mid bid : Nat} {fm : Option Nat} {ro : Bool} (h1 : st.h.get mid = some (.map M c)) (h2 : st.h.get bid = some (.cells fm ro [.mp mid])) => HW.e62 h1 h2
      have k63 := fun {st : St} {mid bid : Nat} {fm : Option Nat} {ro : Bool} (h1 : st.h.get mid = some (.map M c)) (h2 : st.h.get bid = some (.cells fm ro [.mp mid])) => HW.e63 h1 h2
      have khad := HW.had
      obtain ⟨a0, ha0⟩ : ∃ x, lo0 (i + 1) = x := ⟨_, rfl⟩
      obtain ⟨b0, hb0⟩ : ∃ x, hi0 (i + 1) = x := ⟨_, rfl⟩
      obtain ⟨a1, ha1⟩ : ∃ x, lo1 (i + 1) = x := ⟨_, rfl⟩
      obtain ⟨b1, hb1⟩ : ∃ x, hi1 (i + 1) = x := ⟨_, rfl⟩
      obtain ⟨a2, ha2⟩ : ∃ x, lo2 (i + 1) = x := ⟨_, rfl⟩
      obtain ⟨b2, hb2⟩ : ∃ x, hi2 (i + 1) = x := ⟨_, rfl⟩
      rw [ha0, hb0] at k61
      rw [ha1, hb1] at k62
      rw [ha2, hb2] at k63
      refine SW.seq (SW.block ?_)
      refine SW.seqRun tok hO (by cbv <;> rfl) (by trivial) ?_
      refine SW.seq (SW.runN tok hO 2 (by cbv <;> rfl) (by trivial) ?_)
      refine OpsW.callS en58 (khad _) (by cbv <;> rfl) fun v1 st' hk => ?_
      obtain ⟨rfl, rfl⟩ := hk
      refine OpsW.run tok hO (by cbv <;> rfl) (by trivial) ?_
      refine SW.seqRunD tok mixed hO (by rfl) (by cbv <;> rfl) (by trivial) ?_
      refine AnyE.many [3] (by cbv <;> rfl) (by rfl) ⟨?_, trivial⟩
      refine PickE.callE en60 (keys60 8 _) (by cbv <;> rfl) (by cbv <;> rfl) fun r st' hk => ?_
      obtain ⟨rfl, rfl⟩ := hk
      refine ⟨(by repeat (first | exact trivial | refine And.intro (by first | exact lv_of hO (by cbv <;> rfl) (by trivial) | (cbv <;> rfl)) ?_)), ?_⟩
      refine AnyE.run tok hO (by rfl) (by cbv <;> rfl) (by trivial) ?_
      refine AnyE.callS en59 (k61 rfl rfl) (by cbv <;> rfl) (by cbv <;> rfl) ?_
      refine AnyE.run tok hO (by rfl) (by cbv <;> rfl) (by trivial) ?_
      refine AnyE.effK tok hO (by cbv <;> rfl) (by cbv <;> rfl) (by trivial) ?_ ?_
      · exact (by repeat (first | exact trivial | refine And.intro (by first | exact lv_of hO (by cbv <;> rfl) (by trivial) | (cbv <;> rfl)) ?_))
      refine AnyE.run tok hO (by rfl) (by cbv <;> rfl) (by trivial) ?_
      refine AnyE.appOne (g := rngC lo0 hi0) (len := i + 1) tok (by cbv <;> rfl) (by cbv <;> rfl) (by rfl) (by rfl) hG0 (by kernel_rfl) (by rfl) (by rfl) (by omega) fun H0 hH0 => ?_
      refine AnyE.run tok hO (by rfl) (by cbv <;> rfl) (by trivial) ?_
      refine AnyE.eff tok hO (by cbv <;> rfl) (by cbv <;> rfl) (by trivial) ?_
      refine AnyE.done (by rfl) ?_
      refine SW.seqRunD tok mixed hO (by rfl) (by cbv <;> rfl) (by trivial) ?_
      refine AnyE.many [3] (by cbv <;> rfl) (by rfl) ⟨?_, trivial⟩
      refine PickE.callE en60 (keys60 8 _) (by cbv <;> rfl) (by cbv <;> rfl) fun r st' hk => ?_
      obtain ⟨rfl, rfl⟩ := hk
      refine ⟨(by repeat (first | exact trivial | refine And.intro (by first | exact lv_of hO (by cbv <;> rfl) (by trivial) | (cbv <;> rfl)) ?_)), ?_⟩
      refine AnyE.run tok hO (by rfl) (by cbv <;> rfl) (by trivial) ?_
      refine AnyE.callS en59 (k62 rfl rfl) (by cbv <;> rfl) (by cbv <;> rfl) ?_
      refine AnyE.run tok hO (by rfl) (by cbv <;> rfl) (by trivial) ?_
      refine AnyE.effK tok hO (by cbv <;> rfl) (by cbv <;> rfl) (by trivial) ?_ ?_
      · exact (by repeat (first | exact trivial | refine And.intro (by first | exact lv_of hO (by cbv <;> rfl) (by trivial) | (cbv <;> rfl)) ?_))
      refine AnyE.run tok hO (by rfl) (by cbv <;> rfl) (by trivial) ?_
      refine AnyE.appOne (g := rngC lo1 hi1) (len := i + 1) tok (by cbv <;> rfl) (by cbv <;> rfl) (by rfl) (by rfl) hG1 (by kernel_rfl) (by rfl) (by rfl) (by omega) fun H1 hH1 => ?_
      refine AnyE.run tok hO (by rfl) (by cbv <;> rfl) (by trivial) ?_
      refine AnyE.eff tok hO (by cbv <;> rfl) (by cbv <;> rfl) (by trivial) ?_
      refine AnyE.done (by rfl) ?_
      refine SW.runD tok mixed hO (by rfl) (by cbv <;> rfl) (by trivial) ?_
      refine AnyE.many [3] (by cbv <;> rfl) (by rfl) ⟨?_, trivial⟩
      refine PickE.callE en60 (keys60 8 _) (by cbv <;> rfl) (by cbv <;> rfl) fun r st' hk => ?_
      obtain ⟨rfl, rfl⟩ := hk
      refine ⟨(by repeat (first | exact trivial | refine And.intro (by first | exact lv_of hO (by cbv <;> rfl) (by trivial) | (cbv <;> rfl)) ?_)), ?_⟩
      refine AnyE.run tok hO (by rfl) (by cbv <;> rfl) (by trivial) ?_
      refine AnyE.callS en59 (k63 rfl rfl) (by cbv <;> rfl) (by cbv <;> rfl) ?_
      refine AnyE.run tok hO (by rfl) (by cbv <;> rfl) (by trivial) ?_
      refine AnyE.effK tok hO (by cbv <;> rfl) (by cbv <;> rfl) (by trivial) ?_ ?_
      · exact (by repeat (first | exact trivial | refine And.intro (by first | exact lv_of hO (by cbv <;> rfl) (by trivial) | (cbv <;> rfl)) ?_))
      refine AnyE.run tok hO (by rfl) (by cbv <;> rfl) (by trivial) ?_
      refine AnyE.appOne (g := rngC lo2 hi2) (len := i + 1) tok (by cbv <;> rfl) (by cbv <;> rfl) (by rfl) (by rfl) hG2 (by kernel_rfl) (by rfl) (by rfl) (by omega) fun H2 hH2 => ?_
      refine AnyE.run tok hO (by rfl) (by cbv <;> rfl) (by trivial) ?_
      refine AnyE.eff tok hO (by cbv <;> rfl) (by cbv <;> rfl) (by trivial) ?_
      refine AnyE.done (by rfl) ?_
      refine SW.run tok hO (by cbv <;> rfl) (by trivial) ?_
      refine ⟨i + 1 + 1, by omega, by omega, tabR [(5, 11), (6, 14), (7, 17)], ?_⟩
      refine WeakR.tabG F567 F567_inj rfl rfl (by simp) (by rfl) (by show 5 ≤ 8; omega) (by rfl) ⟨RenV.ptr (by omega), RenV.ptr (by omega), RenV.ptr (by omega), RenV.closed Below.lit, RenV.inc hO (by omega), trivial⟩
        ⟨⟨by omega, _, rfl, .cells (.cons (RenV.sl (by omega)) (.cons (RenV.sl (by omega)) (.cons (RenV.sl (by omega)) (.cons (RenV.closed Below.lit) (.cons (RenV.closed Below.lit) (.cons (RenV.closed Below.lit) (.cons (RenV.closed Below.lit) (.cons (RenV.closed Below.lit) (.cons (RenV.closed Below.lit) (.cons (RenV.closed Below.lit) (.cons (RenV.closed Below.lit) .nil))))))))))), rfl⟩,
          ⟨by omega, _, rfl, .cells (.cons (RenV.closed Below.lit) (.cons (RenV.closed Below.lit) (.cons (RenV.closed (womsV_below d)) (.cons (RenV.closed (lotsV_below d)) (.cons (RenV.closed (cntsV_below d)) (.cons (RenV.closed hY) (.cons (RenV.mp (by omega)) .nil))))))), rfl⟩,
          ⟨by omega, _, rfl, .cells (RenVs.closed (AllB.ok ⟨Below.lit, Below.lit, Below.lit, Below.lit, Below.lit, Below.lit, Below.lit, Below.lit, Below.lit, Below.lit, Below.lit, trivial⟩)), rfl⟩,
          ⟨by omega, _, rfl, .cells (RenVs.of_eq (by rw [hH0, ← ha0, ← hb0]; rfl) (flatG_below (rngC_below lo0 hi0) (i + 1 + 1))), rfl⟩, ⟨by omega, _, rfl, .cells (RenVs.of_eq (by rw [hH1, ← ha1, ← hb1]; rfl) (flatG_below (rngC_below lo1 hi1) (i + 1 + 1))), rfl⟩, ⟨by omega, _, rfl, .cells (RenVs.of_eq (by rw [hH2, ← ha2, ← hb2]; rfl) (flatG_below (rngC_below lo2 hi2) (i + 1 + 1))), rfl⟩, trivial⟩
    · have hge : d.nw = i + 1 := by
        have : (d.nw : Int) ≤ ((i + 1 : Nat) : Int) := by subst hO; simpa [std] using h
        omega
      refine SW.exit ?_
      refine SW.seq (SW.runN tok hO 2 (by cbv <;> rfl) (by trivial) ?_)
      refine OpsW.callS en64 (values64 L G _) (by cbv <;> rfl) fun v1 st' hk => ?_
      obtain ⟨rfl, rfl⟩ := hk
      refine OpsW.run tok hO (by cbv <;> rfl) (by trivial) ?_
      refine SW.seq (SW.runN tok hO 1 (by cbv <;> rfl) (by trivial) ?_)
      refine OpsW.callS en65 (h66 rfl) (by cbv <;> rfl) fun v1 st' hk => ?_
      obtain ⟨rfl, rfl⟩ := hk
      refine OpsW.run tok hO (by cbv <;> rfl) (by trivial) ?_
      refine SW.seq (SW.runN tok hO 1 (by cbv <;> rfl) (by trivial) ?_)
      refine OpsW.callS en65 (h67 rfl) (by cbv <;> rfl) fun v1 st' hk => ?_
      obtain ⟨rfl, rfl⟩ := hk
      refine OpsW.run tok hO (by cbv <;> rfl) (by trivial) ?_
      refine SW.seq (SW.runN tok hO 1 (by cbv <;> rfl) (by trivial) ?_)
      refine OpsW.callS en65 (h68 rfl) (by cbv <;> rfl) fun v1 st' hk => ?_
      obtain ⟨rfl, rfl⟩ := hk
      refine OpsW.run tok hO (by cbv <;> rfl) (by trivial) ?_
      refine SW.seq (SW.runN tok hO 1 (by cbv <;> rfl) (by trivial) ?_)
      refine OpsW.callS en65 (h69 rfl) (by cbv <;> rfl) fun v1 st' hk => ?_
      obtain ⟨rfl, rfl⟩ := hk
      refine OpsW.run tok hO (by cbv <;> rfl) (by trivial) ?_
      refine SW.seqRun tok hO (by cbv <;> rfl) (by trivial) ?_
      rw [hge]
      refine SW.ret ⟨_, _, rfl, rfl, ?_⟩
      refine Eqv.tup (.cons (Eqv.agg ?_) (.cons (Eqv.of rfl) .nil))
      refine .cons ?_ (.cons ?_ (.cons ?_ (.cons (Eqv.of rfl) (.cons (Eqv.of rfl) (.cons (Eqv.of rfl) (.cons (Eqv.of rfl) (.cons (Eqv.of rfl) (.cons (Eqv.of rfl) (.cons (Eqv.of rfl) (.cons (Eqv.of rfl) .nil))))))))))
      · show Eqv (frz _ _ 3 (.sl 5 0 (i + 1) 2 false)) _
        rw [frz_slE (fm := none) (G := G0) rfl rfl (by rw [hG0, flatG_length]; omega)]
        exact Eqv.isl rfl fun j k hj hk => Eqv.of (by rw [hG0]; exact frz_flat hj hk (by unfold rngC; split <;> rfl))
      · show Eqv (frz _ _ 3 (.sl 6 0 (i + 1) 2 false)) _
        rw [frz_slE (fm := none) (G := G1) rfl rfl (by rw [hG1, flatG_length]; omega)]
        exact Eqv.isl rfl fun j k hj hk => Eqv.of (by rw [hG1]; exact frz_flat hj hk (by unfold rngC; split <;> rfl))
      · show Eqv (frz _ _ 3 (.sl 7 0 (i + 1) 2 false)) _
        rw [frz_slE (fm := none) (G := G2) rfl rfl (by rw [hG2, flatG_length]; omega)]
        exact Eqv.isl rfl fun j k hj hk => Eqv.of (by rw [hG2]; exact frz_flat hj hk (by unfold rngC; split <;> rfl))
end Go.Fz
namespace Go.Fz
open Go.Proofs
set_option maxRecDepth 100000
def mnN (lo hi : Nat → Int) : Nat → Int
  | 0 => 1
  | i + 1 => minI 3000 (mul64 (mnN lo hi i) (size64 (lo i) (hi i)))
theorem size64_in {lo hi : Int} (h1 : 0 ≤ lo) (h2 : lo ≤ hi) (h3 : hi ≤ 5000) : size64 lo hi = hi - lo + 1 := by
  unfold size64
  rw [sub64_in _ _ (by omega) (by omega), add64_in _ _ (by omega) (by omega)]
theorem mn_pr (lo hi : Nat → Int) (M : Nat) (hr : ∀ i, i < M → 0 ≤ lo i ∧ lo i ≤ hi i ∧ hi i ≤ 5000) : ∀ i, i ≤ M → (1 ≤ mnN lo hi i ∧ mnN lo hi i ≤ 3000) ∧ ((∀ j, j < i → prN lo hi (j + 1) ≤ 2000) → prN lo hi i = mnN lo hi i ∧ mnN lo hi i ≤ 2000) ∧ ((∃ j, j < i ∧ 2000 < prN lo hi (j + 1)) → 2000 < mnN lo hi i)
  | 0, _ => ⟨⟨by simp [mnN], by simp [mnN]⟩, fun _ => ⟨rfl, by simp [mnN]⟩, fun ⟨j, hj, _⟩ => absurd hj (Nat.not_lt_zero j)⟩
  | i + 1, hi' => by
    obtain ⟨⟨a1, a2⟩, ih1, ih2⟩ := mn_pr lo hi M hr i (by omega)
    obtain ⟨r1, r2, r3⟩ := hr i (by omega)
    have hs := size64_in r1 r2 r3
    obtain ⟨s, hsd⟩ : ∃ s, s = size64 (lo i) (hi i) := ⟨_, rfl⟩
    have hs1 : 1 ≤ s := by omega
    have hs2 : s ≤ 5001 := by omega
    have em : mnN lo hi (i + 1) = minI 3000 (mul64 (mnN lo hi i) s) := by rw [hsd]; rfl
    have ep : prN lo hi (i + 1) = mul64 (prN lo hi i) s := by rw [hsd]; rfl
    have b1 : mnN lo hi i ≤ mnN lo hi i * s := by
      have := Int.mul_le_mul_of_nonneg_left hs1 (show 0 ≤ mnN lo hi i by omega)
      omega
    have b2 : mnN lo hi i * s ≤ 3000 * 5001 := Int.mul_le_mul a2 hs2 (by omega) (by omega)
    have em2 : mul64 (mnN lo hi i) s = mnN lo hi i * s := mul64_in _ _ (by omega) (by omega)
    have emin : mnN lo hi (i + 1) = if mnN lo hi i * s < 3000 then mnN lo hi i * s else 3000 := by rw [em, em2]; rfl
    refine ⟨by rw [emin]; split <;> omega, fun hall => ?_, fun ⟨j, hj, hjp⟩ => ?_⟩
    · obtain ⟨e1, e2⟩ := ih1 fun j hj => hall j (by omega)
      have hl := hall i (by omega)
      rw [ep, e1, em2] at hl
      rw [ep, e1, em2, emin]
      split <;> omega
    · by_cases hex : ∃ j, j < i ∧ 2000 < prN lo hi (j + 1)
      · have := ih2 hex
        rw [emin]; split <;> omega
      · have hall : ∀ j, j < i → prN lo hi (j + 1) ≤ 2000 := fun j hj => by
          rcases Int.lt_or_le 2000 (prN lo hi (j + 1)) with h | h
          · exact absurd ⟨j, hj, h⟩ hex
          · exact h
        obtain ⟨e1, e2⟩ := ih1 hall
        have : j = i := by
          rcases Nat.lt_succ_iff_lt_or_eq.1 hj with h | h
          · exact absurd ⟨j, h, hjp⟩ hex
          · exact h
        subst this
        rw [ep, e1, em2] at hjp
        rw [emin]; split <;> omega
theorem manyW_mn (d : DayD) : ∀ i, i ≤ d.nw → d.manyW i = mnN d.ulo d.uhi i
  | 0, _ => rfl
  | i + 1, h => by
    have : i < d.nw := by omega
    show minI 3000 (mul64 (d.manyW i) (size64 (d.wlo i) (d.whi i))) = minI 3000 (mul64 (mnN d.ulo d.uhi i) (size64 (d.ulo i) (d.uhi i)))
    rw [manyW_mn d i (by omega)]
    simp only [DayD.ulo, DayD.uhi, this, if_true]
theorem manyL_mn (d : DayD) : ∀ j, d.manyL j = mnN d.ulo d.uhi (d.nw + j)
  | 0 => manyW_mn d d.nw (Nat.le_refl _)
  | j + 1 => by
    have : ¬ d.nw + j < d.nw := by omega
    show minI 3000 (mul64 (d.manyL j) (size64 (d.llo j) (d.lhi j))) = minI 3000 (mul64 (mnN d.ulo d.uhi (d.nw + j)) (size64 (d.ulo (d.nw + j)) (d.uhi (d.nw + j))))
    rw [manyL_mn d j]
    simp only [DayD.ulo, DayD.uhi, this, if_false, Nat.add_sub_cancel_left]
theorem lot_eq (d : DayD) (i : Nat) : d.lotOk i = d.lotN i := by
  have : d.hasW (d.lw i) = inB (d.lw i) 0 ((d.nw : Int) - 1) := by
    rw [Bool.eq_iff_iff]; simp only [DayD.hasW, inB, Bool.and_eq_true, decide_eq_true_eq]; omega
  unfold DayD.lotOk DayD.lotN
  rw [this]
theorem cnt_eq (d : DayD) (h : 0 < d.nw) (i : Nat) : d.cntOk i = d.cntN i := by
  unfold DayD.cntOk DayD.cntN
  generalize withinB (d.clo i) (d.chi i) 0 20000 = w
  cases w
  · simp
  · rw [Bool.eq_iff_iff]
    simp only [DayD.hasW, inB, Bool.and_eq_true, Bool.or_eq_true, decide_eq_true_eq, Bool.and_true, Bool.true_and, and_true, true_and]
    by_cases hk : 1 < d.ck i
    · simp only [hk, if_true, decide_eq_true_eq]; omega
    · simp only [hk, if_false, Bool.and_eq_true, decide_eq_true_eq]; omega
theorem valid_eq (d : DayD) : d.validB = d.validN := by
  unfold DayD.validB DayD.validN
  by_cases h : 0 < d.nw
  · rw [show allN d.nl d.lotOk = allN d.nl d.lotN from allN_congr fun i _ => lot_eq d i, show allN d.nc d.cntOk = allN d.nc d.cntN from allN_congr fun i _ => cnt_eq d h i]
    rfl
  · simp [h]
theorem check_eq (d : DayD) : d.check = d.faultN := by
  unfold DayD.check DayD.faultN
  rw [← valid_eq]
  by_cases h1 : d.long = true
  · rw [if_pos h1, if_pos h1]
  · rw [if_neg h1, if_neg h1]
    by_cases h2 : d.validB = true
    · rw [if_pos h2, if_pos h2]
      have g := good_of_valid (by simpa using h1) h2
      have hr : ∀ i, i < d.nw + d.nl → 0 ≤ d.ulo i ∧ d.ulo i ≤ d.uhi i ∧ d.uhi i ≤ 5000 := fun i hi => by
        unfold DayD.ulo DayD.uhi
        by_cases hc : i < d.nw
        · have := g.wom i hc
          simp only [hc, if_true]; omega
        · have := g.lot (i - d.nw) (by omega)
          simp only [hc, if_false]; omega
      obtain ⟨_, m1, m2⟩ := mn_pr d.ulo d.uhi (d.nw + d.nl) hr (d.nw + d.nl) (Nat.le_refl _)
      rw [manyL_mn]
      by_cases hall : ∀ j, j < d.nw + d.nl → prN d.ulo d.uhi (j + 1) ≤ 2000
      · have hb : manyB d.ulo d.uhi (d.nw + d.nl) = false := by
          unfold manyB; rw [allN_true fun j hj => by simpa using hall j hj]; rfl
        obtain ⟨_, e2⟩ := m1 hall
        rw [hb, if_neg (by simp), if_neg (by omega)]
      · have hex : ∃ j, j < d.nw + d.nl ∧ 2000 < prN d.ulo d.uhi (j + 1) := by
          apply Classical.byContradiction
          intro hn
          refine hall fun j hj => ?_
          rcases Int.lt_or_le 2000 (prN d.ulo d.uhi (j + 1)) with h | h
          · exact absurd ⟨j, hj, h⟩ hn
          · exact h
        have hb : manyB d.ulo d.uhi (d.nw + d.nl) = true := by
          obtain ⟨j, hj, hp⟩ := hex
          unfold manyB; rw [allN_false (i := j) hj (by simpa using hp)]; rfl
        rw [hb, if_pos rfl, if_pos (m2 hex)]
    · rw [if_neg h2, if_neg h2]
theorem stemN_bound {d : DayD} {t : TruD} (hst : ∀ i, i < d.nl → 0 ≤ t.st i ∧ t.st i ≤ 5000) (w : Int) : ∀ j, j ≤ d.nl → j ≤ 4 → 0 ≤ stemN d t.st w j ∧ stemN d t.st w j ≤ 5000 * j
  | 0, _, _ => by simp [stemN]
  | j + 1, h, h4 => by
    obtain ⟨h1, h2⟩ := stemN_bound hst w j (by omega) (by omega)
    have := hst j (by omega)
    show 0 ≤ (if d.lw j = w then add64 (stemN d t.st w j) (t.st j) else stemN d t.st w j) ∧ (if d.lw j = w then add64 (stemN d t.st w j) (t.st j) else stemN d t.st w j) ≤ 5000 * ((j + 1 : Nat) : Int)
    split
    · rw [add64_in _ _ (by omega) (by omega)]; omega
    · omega
theorem sumN_bound {b : Nat → Int} {M : Nat} (hb : ∀ i, i < M → 0 ≤ b i ∧ b i ≤ 20000) : ∀ i, i ≤ M → i ≤ 4 → 0 ≤ sumN b i ∧ sumN b i ≤ 20000 * i
  | 0, _, _ => by simp [sumN]
  | i + 1, h, h4 => by
    obtain ⟨h1, h2⟩ := sumN_bound hb i (by omega) (by omega)
    have := hb i (by omega)
    show 0 ≤ add64 (sumN b i) (b i) ∧ add64 (sumN b i) (b i) ≤ 20000 * ((i + 1 : Nat) : Int)
    rw [add64_in _ _ (by omega) (by omega)]; omega
theorem tally_bounds {d : DayD} {t : TruD} (g : d.Good) (h : d.fits t = true) : (∀ w : Nat, w < d.nw → 1 ≤ t.fe w) ∧ (∀ w : Nat, w < d.nw → 0 ≤ stemN d t.st w d.nl ∧ stemN d t.st w d.nl ≤ 1000000000) ∧ 0 ≤ d.all t ∧ d.all t ≤ 1000000000 := by
  obtain ⟨h1, h2, h3, h4⟩ := fits_true h
  have f1 : ∀ w : Nat, w < d.nw → 1 ≤ t.fe w := fun w hw => by have := h3 w hw; have := g.wom w hw; omega
  have s1 : ∀ i, i < d.nl → 0 ≤ t.st i ∧ t.st i ≤ 5000 := fun i hi => by have := h4 i hi; have := g.lot i hi; omega
  have hnl := g.nl
  have hnw := g.nw
  have s2 : ∀ w : Int, 0 ≤ stemN d t.st w d.nl ∧ stemN d t.st w d.nl ≤ 20000 := fun w => by
    obtain ⟨a, b⟩ := stemN_bound s1 w d.nl (Nat.le_refl _) hnl
    omega
  have b1 : ∀ i, i < d.nw → 0 ≤ d.bun t i ∧ d.bun t i ≤ 20000 := fun i hi => by
    unfold DayD.bun
    rw [h2]
    have := s2 i
    obtain ⟨k1, k2, _⟩ := tdiv_nn this.1 (f1 i hi)
    rw [quo64_nn this.1 (by omega) (f1 i hi)]; omega
  obtain ⟨a, b⟩ := sumN_bound b1 d.nw (Nat.le_refl _) hnw
  exact ⟨f1, fun w _ => by have := s2 w; omega, a, by show sumN (d.bun t) d.nw ≤ _; omega⟩
end Go.Fz
namespace Go.Fz
open Go.Proofs
set_option maxRecDepth 100000
def DayD.thinB (d : DayD) : Bool := decide (d.nw ≤ 6) && decide (d.nl ≤ 6) && decide (d.nc ≤ 7) && (decide (d.faultN ≠ 0) || decide (d.manyL d.nl ≤ 200))
set_option maxHeartbeats 4000000 in
theorem thin_ok (d : DayD) : Pure Try.prog 16 [dayV d] (.sb d.thinB) := by
  obtain ⟨O, hO⟩ : ∃ O : Ar, O = std := ⟨_, rfl⟩
  refine pure_of_body tok 3 Try.func16 en16 rfl ⟨dayV_below d, trivial⟩ Below.sb ?_
  refine SW.seqRun tok hO (by cbv <;> rfl) (by trivial) ?_
  refine SW.seqRun tok hO (by cbv <;> rfl) (by trivial) ?_
  refine OpsW.splitG (by cbv <;> rfl) (fun h1 => ?_) (fun h1 => ?_) <;> refine OpsW.run tok hO (by cbv <;> rfl) (by trivial) ?_
  rotate_left
  · have : ¬ (d.nw : Int) ≤ 6 := by subst hO; simpa [std] using h1
    refine SW.ret ⟨_, _, rfl, rfl, Eqv.bool ?_⟩
    have : ¬ d.nw ≤ 6 := by omega
    simp [DayD.thinB, this]
  have k1' : (d.nw : Int) ≤ 6 := by subst hO; simpa [std] using h1
  have k1 : d.nw ≤ 6 := by omega
  refine OpsW.splitG (by cbv <;> rfl) (fun h2 => ?_) (fun h2 => ?_) <;> refine OpsW.run tok hO (by cbv <;> rfl) (by trivial) ?_
  rotate_left
  · have : ¬ (d.nl : Int) ≤ 6 := by subst hO; simpa [std] using h2
    refine SW.ret ⟨_, _, rfl, rfl, Eqv.bool ?_⟩
    have : ¬ d.nl ≤ 6 := by omega
    simp [DayD.thinB, this]
  have k2' : (d.nl : Int) ≤ 6 := by subst hO; simpa [std] using h2
  have k2 : d.nl ≤ 6 := by omega
  refine OpsW.splitG (by cbv <;> rfl) (fun h3 => ?_) (fun h3 => ?_) <;> refine OpsW.run tok hO (by cbv <;> rfl) (by trivial) ?_
  rotate_left
  · have : ¬ (d.nc : Int) ≤ 7 := by subst hO; simpa [std] using h3
    refine SW.ret ⟨_, _, rfl, rfl, Eqv.bool ?_⟩
    have : ¬ d.nc ≤ 7 := by omega
    simp [DayD.thinB, this]
  have k3' : (d.nc : Int) ≤ 7 := by subst hO; simpa [std] using h3
  have k3 : d.nc ≤ 7 := by omega
  have hs : d.small := ⟨by omega, by omega, by omega⟩
  refine OpsW.callI (fault_ok d hs) (by cbv <;> rfl) fun e he => ?_
  refine OpsW.run tok hO (by cbv <;> rfl) (by trivial) ?_
  refine OpsW.splitG (by cbv <;> rfl) (fun h4 => ?_) (fun h4 => ?_) <;> refine OpsW.run tok hO (by cbv <;> rfl) (by trivial) ?_
  · have : d.faultN ≠ 0 := by subst hO; rw [← he]; simpa [std] using h4
    refine SW.ret ⟨_, _, rfl, rfl, Eqv.bool ?_⟩
    simp [DayD.thinB, this, k1, k2, k3]
  · have h5 : ¬ d.faultN ≠ 0 := by subst hO; rw [← he]; simpa [std] using h4
    refine OpsW.callI (many_ok d hs) (by cbv <;> rfl) fun m hm => ?_
    refine OpsW.run tok hO (by cbv <;> rfl) (by trivial) ?_
    refine SW.ret ⟨_, _, rfl, rfl, Eqv.sb ?_⟩
    subst hO
    simp [DayD.thinB, k1, k2, k3, h5, std, ← hm]
def DayD.readyB (d : DayD) : Bool := d.thinB && decide (d.faultN = 0)
theorem thin_small {d : DayD} (h : d.thinB = true) : d.nw ≤ 6 ∧ d.nl ≤ 6 ∧ d.nc ≤ 7 := by
  simp only [DayD.thinB, Bool.and_eq_true, decide_eq_true_eq] at h; exact ⟨h.1.1.1, h.1.1.2, h.1.2⟩
theorem ready_ok (d : DayD) : Pure Try.prog 41 [dayV d] (.sb d.readyB) := by
  obtain ⟨O, hO⟩ : ∃ O : Ar, O = std := ⟨_, rfl⟩
  have call := thin_ok d
  have hr : d.readyB = (d.thinB && decide (d.faultN = 0)) := rfl
  have hsm : d.thinB = true → d.small := fun h => by have := thin_small h; exact ⟨by omega, by omega, by omega⟩
  generalize d.thinB = b at call hr hsm
  rw [hr]
  refine pure_of_body tok 3 Try.func41 en41 rfl ⟨dayV_below d, trivial⟩ Below.sb ?_
  refine SW.seqRun tok hO (by cbv <;> rfl) (by trivial) ?_
  refine SW.seqRun tok hO (by cbv <;> rfl) (by trivial) ?_
  refine OpsW.callP call (by cbv <;> rfl) ?_
  refine OpsW.run tok hO (by cbv <;> rfl) (by trivial) ?_
  refine OpsW.splitG (by cbv <;> rfl) (fun h1 => ?_) (fun h1 => ?_) <;> refine OpsW.run tok hO (by cbv <;> rfl) (by trivial) ?_
  · subst h1
    refine OpsW.callI (fault_ok d (hsm rfl)) (by cbv <;> rfl) fun e he => ?_
    refine OpsW.run tok hO (by cbv <;> rfl) (by trivial) ?_
    refine SW.ret ⟨_, _, rfl, rfl, Eqv.sb ?_⟩
    rw [← he]; subst hO; simp [std]; rfl
  · subst h1
    exact SW.ret ⟨_, _, rfl, rfl, Eqv.bool rfl⟩
theorem ready_good {d : DayD} (h : d.readyB = true) : d.Good ∧ d.manyL d.nl ≤ 200 := by
  simp only [DayD.readyB, Bool.and_eq_true, decide_eq_true_eq] at h
  obtain ⟨h1, h2⟩ := h
  refine ⟨good_of_check ((check_eq d).trans h2), ?_⟩
  simp only [DayD.thinB, Bool.and_eq_true, Bool.or_eq_true, decide_eq_true_eq] at h1
  rcases h1.2 with h | h
  · exact absurd h2 h
  · exact h
theorem tmod_in {q z : Int} (hq : 0 ≤ q) (hz : 1 ≤ z) : 0 ≤ q.tmod z ∧ q.tmod z < z := by
  obtain ⟨_, _, _, h4, h5⟩ := tdiv_nn hq hz
  exact ⟨h4, h5⟩
theorem pick_in {O : Ar} (hO : O = std) {a : Int} {n : Nat} (h0 : 0 ≤ a) (h1 : a ≤ 255) (hn : 0 < n) (hn2 : n < 1000) : ∃ k : Nat, k < n ∧ O.bin .rem .i64 (O.conv .i64 a) (Int.ofNat n) = Int.ofNat k := by
  obtain ⟨r1, r2⟩ := tmod_in (q := a) (z := n) h0 (by omega)
  refine ⟨(a.tmod n).toNat, by omega, ?_⟩
  subst hO
  show (wrp .i64 a).tmod n = ((a.tmod n).toNat : Int)
  rw [wrp_in (by simp only [IntKind.lo]; omega) (by simp only [IntKind.hi]; omega)]
  omega
end Go.Fz
namespace Go.Fz
open Go.Proofs
set_option maxRecDepth 100000
def mnF (V : Nat → Int) (L : Nat) : Int := leN (V 0) (fun i => V (i + 1)) (L - 1)
def mxF (V : Nat → Int) (L : Nat) : Int := grN (V 0) (fun i => V (i + 1)) (L - 1)
theorem mnF_le {V : Nat → Int} {L i : Nat} (h : i < L) : mnF V L ≤ V i := by
  obtain ⟨⟨h1, h2⟩, _⟩ := leN_le (V 0) (fun i => V (i + 1)) (L - 1)
  cases i with
  | zero => exact h1
  | succ i => exact h2 i (by omega)
theorem mnF_mem {V : Nat → Int} {L : Nat} (h : 0 < L) : ∃ i, i < L ∧ V i = mnF V L := by
  obtain ⟨_, h3⟩ := leN_le (V 0) (fun i => V (i + 1)) (L - 1)
  rcases h3 with h3 | ⟨i, hi, h3⟩
  · exact ⟨0, h, h3.symm⟩
  · exact ⟨i + 1, by omega, h3.symm⟩
theorem mxF_ge {V : Nat → Int} {L i : Nat} (h : i < L) : V i ≤ mxF V L := by
  obtain ⟨⟨h1, h2⟩, _⟩ := grN_ge (V 0) (fun i => V (i + 1)) (L - 1)
  cases i with
  | zero => exact h1
  | succ i => exact h2 i (by omega)
theorem mxF_mem {V : Nat → Int} {L : Nat} (h : 0 < L) : ∃ i, i < L ∧ V i = mxF V L := by
  obtain ⟨_, h3⟩ := grN_ge (V 0) (fun i => V (i + 1)) (L - 1)
  rcases h3 with h3 | ⟨i, hi, h3⟩
  · exact ⟨0, h, h3.symm⟩
  · exact ⟨i + 1, by omega, h3.symm⟩
theorem ends_g (g : FuncId) (val : PK → Int) (K : Nat → PK) (L : Nat) (h0 : 0 < L) (hL : L < 100000) (V : Nat → Int) (hV : ∀ j, j < L → val (K j) = V j) (hof : ∀ j, j < L → Pure Try.prog g [pkV (K j)] (iV (val (K j)))) {st : St} {mid bid : Nat} {fm : Option Nat} {ro : Bool}
    (hm : st.h.get mid = some (.map (mapE pkV (pkP K L).1) (pkP K L).2)) (hc : st.h.get bid = some (.cells fm ro [.mp mid])) :
    CallW Try.prog 59 [.fn (.func 99) [] [.ptr bid 0], .fn (.func g) [] []] st (fun v st' => v = rangeV (mnF V L) (mxF V L) ∧ st' = st) := by
  have hmem : ∀ p ∈ (pkP K L).1, ∃ j, j < L ∧ K j = p.1 := fun p hp => (pkP_mem K p.1 L).1 (List.mem_map.2 ⟨p, hp, rfl⟩)
  have hcov : ∀ j, j < L → ∃ p ∈ (pkP K L).1, p.1 = K j := fun j hj => by
    obtain ⟨p, hp, e⟩ := List.mem_map.1 ((pkP_mem K (K j) L).2 ⟨j, hj, rfl⟩)
    exact ⟨p, hp, e⟩
  have hex : ∀ z, (∃ j, j < L ∧ V j = z) → ∃ p ∈ (pkP K L).1, val p.1 = z := fun z ⟨j, hj, e⟩ => by
    obtain ⟨p, hp, e2⟩ := hcov j hj
    exact ⟨p, hp, by rw [e2, hV j hj, e]⟩
  refine ends59 g val (pkP K L).1 (pkP K L).2 (pkP_born K L) (by have := pkP_len K L; omega) (fun p hp => ?_) (mnF V L) (mxF V L) (hex _ (mnF_mem h0)) (fun p hp => ?_) (hex _ (mxF_mem h0)) (fun p hp => ?_) hm hc
  · obtain ⟨j, hj, e⟩ := hmem p hp
    rw [← e]; exact hof j hj
  · obtain ⟨j, hj, e⟩ := hmem p hp
    rw [← e, hV j hj]; exact mnF_le hj
  · obtain ⟨j, hj, e⟩ := hmem p hp
    rw [← e, hV j hj]; exact mxF_ge hj
theorem woman_ok (d : DayD) (w : Nat) (hw : w < d.nw) (hnl : d.nl < 1000) (L : Nat) (h0 : 0 < L) (hL : L < 100000) (A B C D : Nat → Nat → Int) (a b c e : Nat → Int) (hin : ∀ i, i < L → inK (A i w, stemN d (B i) w d.nl) = true) (hpos : ∀ i, i < L → A i w ≠ 0)
    (hC : ∀ i, i < L → C i w = quo64 (stemN d (B i) w d.nl) (A i w)) (hD : ∀ i, i < L → D i w = (stemN d (B i) w d.nl).tmod (A i w)) :
    ∃ M cc, WomanE d (.isl L 8 false (outX d.nw d.nl A B C D a b c e)) (fun w => mnF (fun i => A i w) L) (fun w => mxF (fun i => A i w) L) (fun w => mnF (fun i => C i w) L) (fun w => mxF (fun i => C i w) L) (fun w => mnF (fun i => D i w) L) (fun w => mxF (fun i => D i w) L) w M cc := by
  obtain ⟨K, hK⟩ : ∃ K : Nat → PK, K = fun i => toPK (A i w, stemN d (B i) w d.nl) := ⟨_, rfl⟩
  have hk : ∀ i, i < L → (K i).1 = (A i w, stemN d (B i) w d.nl) := fun i hi => by rw [hK]; exact toPK_val (hin i hi)
  have hpv : ∀ i, i < L → pkV (K i) = pileV (A i w) (stemN d (B i) w d.nl) := fun i hi => by unfold pkV; rw [hk i hi]; rfl
  refine ⟨mapE pkV (pkP K L).1, (pkP K L).2, ⟨fun x hx => ?_, fun st => ?_, fun hm hc => ?_, fun hm hc => ?_, fun hm hc => ?_⟩⟩
  · obtain ⟨p, _, rfl⟩ := List.mem_map.1 hx
    exact ⟨pkV_below _, Below.lit⟩
  · refine CallW.mpArg (fun x => [.agg [iV d.hand, iV d.flat, womsV d, lotsV d, cntsV d, .isl L 8 false (outX d.nw d.nl A B C D a b c e), x], iV w]) (fun φ us h => ?_) (fun mb => (had_ok d w hw hnl L hL A B C D a b c e mb K hk).call st)
    cases h with
    | cons h1 h2 =>
      obtain ⟨vs, rfl, k⟩ := h1.agg_inv
      cases k with
      | cons k0 k =>
        cases k with
        | cons k1 k =>
          cases k with
          | cons k2 k =>
            cases k with
            | cons k3 k =>
              cases k with
              | cons k4 k =>
                cases k with
                | cons k5 k =>
                  cases k with
                  | cons k6 k =>
                    cases k
                    obtain ⟨rfl, _⟩ := k6.mp_inv
                    exact ⟨_, .cons (.agg (.cons k0 (.cons k1 (.cons k2 (.cons k3 (.cons k4 (.cons k5 (.cons (.lit _) .nil)))))))) h2⟩
  · exact ends_g 61 (fun p => p.1.1) K L h0 hL _ (fun j hj => by rw [hk j hj]) (fun j hj => by rw [hpv j hj, hk j hj]; exact number_ok _ _) hm hc
  · exact ends_g 62 (fun p => quo64 p.1.2 p.1.1) K L h0 hL _ (fun j hj => by rw [hk j hj]; exact (hC j hj).symm) (fun j hj => by rw [hpv j hj, hk j hj]; exact bunches_ok _ _ (hpos j hj)) hm hc
  · exact ends_g 63 (fun p => p.1.2.tmod p.1.1) K L h0 hL _ (fun j hj => by rw [hk j hj]; exact (hD j hj).symm) (fun j hj => by rw [hpv j hj, hk j hj]; exact left_ok _ _ (hpos j hj)) hm hc
def DayD.tr (d : DayD) (i : Nat) : TruD := truF d (nthF d.seen.outs i)
def DayD.oN (d : DayD) : Nat := d.seen.outs.length
def DayD.bndV (d : DayD) : AV := .agg (bndC d.nw (fun w => mnF (fun i => (d.tr i).fe w) d.oN) (fun w => mxF (fun i => (d.tr i).fe w) d.oN) (fun w => mnF (fun i => d.bun (d.tr i) w) d.oN) (fun w => mxF (fun i => d.bun (d.tr i) w) d.oN) (fun w => mnF (fun i => d.lef (d.tr i) w) d.oN) (fun w => mxF (fun i => d.lef (d.tr i) w) d.oN)
  (mnF (fun i => (d.tally (d.tr i)).hands) d.oN) (mxF (fun i => (d.tally (d.tr i)).hands) d.oN) (mnF (fun i => (d.tally (d.tr i)).loose) d.oN) (mxF (fun i => (d.tally (d.tr i)).loose) d.oN) (mnF (fun i => (d.tally (d.tr i)).flats) d.oN) (mxF (fun i => (d.tally (d.tr i)).flats) d.oN) (mnF (fun i => (d.tally (d.tr i)).spare) d.oN) (mxF (fun i => (d.tally (d.tr i)).spare) d.oN))
theorem nth_mem {l : List (Nat → Int)} {i : Nat} (h : i < l.length) : nthF l i ∈ l := by
  unfold nthF
  rw [List.getD_eq_getElem?_getD, List.getElem?_eq_getElem h]
  exact List.getElem_mem h
theorem tr_fit {d : DayD} {i : Nat} (hi : i < d.oN) : d.fits (d.tr i) = true := by
  obtain ⟨t, h1, h2, _⟩ := (seen_out d _).1 (nth_mem hi)
  unfold DayD.tr
  refine tally_fit fun m hm => ?_
  rw [← h2]
  exact cutF_in h1 m hm
theorem tr_stem {d : DayD} (g : d.Good) {t : TruD} (h : d.fits t = true) (w : Int) : 0 ≤ stemN d t.st w d.nl ∧ stemN d t.st w d.nl ≤ 20000 := by
  have hl := g.nl
  have hf := h
  simp only [DayD.fits, Bool.and_eq_true, decide_eq_true_eq, allN] at hf
  obtain ⟨⟨⟨h1, h2⟩, h3⟩, h4⟩ := hf
  have := stemN_bound (d := d) (t := t) (fun i hi => by
    have h5 := h4 i (by omega)
    have h6 := g.lot i hi
    simp only [inB, Bool.and_eq_true, decide_eq_true_eq] at h5
    omega) w d.nl (Nat.le_refl _) hl
  omega
theorem tr_feel {d : DayD} (g : d.Good) {t : TruD} (h : d.fits t = true) {w : Nat} (hw : w < d.nw) : 1 ≤ t.fe w ∧ t.fe w ≤ 60 := by
  have hf := h
  simp only [DayD.fits, Bool.and_eq_true, decide_eq_true_eq, allN] at hf
  obtain ⟨⟨⟨h1, h2⟩, h3⟩, h4⟩ := hf
  have h5 := h3 w (by omega)
  have h6 := g.wom w hw
  simp only [inB, Bool.and_eq_true, decide_eq_true_eq] at h5
  omega
theorem boundsV_ok (d : DayD) (hs : d.small) (hc : d.check = 0) (hne : d.seen.outs ≠ []) : Pure Try.prog 18 [dayV d] (.tup [d.bndV, iV 0]) := by
  have g := good_of_check hc
  have hlen := foldE_outs d hc
  have hnl := g.nl
  cases ho : d.seen.outs with
  | nil => exact absurd ho hne
  | cons f l =>
    have e2 := open_ok d hs hc f l ho
    have hW : workM d (f :: l) = fun k => .agg [iV d.hand, iV d.flat, womsV d, lotsV d, cntsV d, .isl (l.length + 1) 8 false (outG d (f :: l)), .mp k] := rfl
    rw [hW, outG_X, ← ho] at e2
    have hN : l.length + 1 = d.oN := by show _ = d.seen.outs.length; rw [ho]; rfl
    rw [hN] at e2
    have h0 : 0 < d.oN := by omega
    have hL : d.oN < 100000 := by have : d.oN ≤ 2000 := hlen; omega
    have ht : ∀ g0 (V : Nat → Int), (∀ i, i < d.oN → Pure Try.prog g0 [.agg [intsV d.nw false (fun j => nthF d.seen.outs i j), intsV d.nl false (fun j => nthF d.seen.outs i (d.nw + j)), intsV d.nw false (d.bun (truF d (nthF d.seen.outs i))), intsV d.nw false (d.lef (truF d (nthF d.seen.outs i))), iV (d.tally (truF d (nthF d.seen.outs i))).hands, iV (d.tally (truF d (nthF d.seen.outs i))).loose, iV (d.tally (truF d (nthF d.seen.outs i))).flats, iV (d.tally (truF d (nthF d.seen.outs i))).spare]] (iV (V i))) →
        TotalE (.isl d.oN 8 false (outX d.nw d.nl (fun i => nthF d.seen.outs i) (fun i j => nthF d.seen.outs i (d.nw + j)) (fun i => d.bun (truF d (nthF d.seen.outs i))) (fun i => d.lef (truF d (nthF d.seen.outs i)))
          (fun i => (d.tally (truF d (nthF d.seen.outs i))).hands) (fun i => (d.tally (truF d (nthF d.seen.outs i))).loose) (fun i => (d.tally (truF d (nthF d.seen.outs i))).flats) (fun i => (d.tally (truF d (nthF d.seen.outs i))).spare))) g0 (mnF V d.oN) (mxF V d.oN) := fun g0 V hof => fun {st bid fm ro} hg =>
      ends65 g0 d.nw d.nl _ _ _ _ _ _ _ _ d.oN h0 hL V hof (mnF V d.oN) (mxF V d.oN) (mnF_mem h0) (fun i hi => mnF_le hi) (mxF_mem h0) (fun i hi => mxF_ge hi) hg
    refine bounds_core d g.pos g.nw d.oN _ (outX_below _ _ _ _ _ _ _ _ _ _ _) _ _ _ _ _ _ _ _ _ _ _ _ _ _ _ _ e2 (fun w hw => ?_) (ht 66 _ fun i hi => of66_ok _ _ _ _ _ _ _ _ _ _) (ht 67 _ fun i hi => of67_ok _ _ _ _ _ _ _ _ _ _) (ht 68 _ fun i hi => of68_ok _ _ _ _ _ _ _ _ _ _) (ht 69 _ fun i hi => of69_ok _ _ _ _ _ _ _ _ _ _)
    refine woman_ok d w hw (by omega) d.oN h0 hL _ _ _ _ _ _ _ _ (fun i hi => ?_) (fun i hi => ?_) (fun i hi => rfl) (fun i hi => rfl)
    · have h1 := tr_feel g (tr_fit hi) hw
      have h2 := tr_stem g (tr_fit hi) w
      have h1' : 1 ≤ nthF d.seen.outs i w ∧ nthF d.seen.outs i w ≤ 60 := h1
      have h2' : 0 ≤ stemN d (fun j => nthF d.seen.outs i (d.nw + j)) w d.nl ∧ stemN d (fun j => nthF d.seen.outs i (d.nw + j)) w d.nl ≤ 20000 := h2
      simp only [inK, Bool.and_eq_true, decide_eq_true_eq]
      omega
    · have h1 : 1 ≤ nthF d.seen.outs i w ∧ nthF d.seen.outs i w ≤ 60 := tr_feel g (tr_fit hi) hw
      omega
set_option maxHeartbeats 8000000 in
theorem bounds_err (d : DayD) (e : Int) (he : e ≠ 0) (h : Pure Try.prog 57 [dayV d, .lit (.bool true)] (.tup [.agg stZ, iV e])) : Pure Try.prog 18 [dayV d] (.tup [.agg bnd0, iV e]) := by
  obtain ⟨O, hO⟩ : ∃ O : Ar, O = std := ⟨_, rfl⟩
  refine pure_of_body tok 3 Try.func18 en18 rfl ⟨dayV_below d, trivial⟩ (Below.tup (AllB.ok ⟨Below.agg (AllB.ok ⟨Below.lit, Below.lit, Below.lit, Below.lit, Below.lit, Below.lit, Below.lit, Below.lit, Below.lit, Below.lit, Below.lit, trivial⟩), Below.lit, trivial⟩)) ?_
  refine SW.seqRun tok hO (by cbv <;> rfl) (by trivial) ?_
  refine SW.seq (SW.runN tok hO 1 (by cbv <;> rfl) (by trivial) ?_)
  refine OpsW.callP h (by cbv <;> rfl) ?_
  refine OpsW.run tok hO (by cbv <;> rfl) (by trivial) ?_
  refine SW.seq ?_
  refine SW.seqRun tok hO (by cbv <;> rfl) (by trivial) ?_
  refine SW.condS (by cbv <;> rfl) (fun h1 => ?_) (fun h1 => ?_)
  · refine SW.seqRun tok hO (by cbv <;> rfl) (by trivial) ?_
    exact SW.ret ⟨_, _, rfl, rfl, Eqv.of rfl⟩
  · exfalso
    subst hO; simp [std] at h1; exact he h1
def DayD.bndR (d : DayD) : AV := if d.seen.outs = [] then .agg bnd0 else d.bndV
def DayD.bndE (d : DayD) : Int := if d.seen.outs = [] then 11 else 0
theorem boundsP_ok (d : DayD) (hs : d.small) (hc : d.check = 0) : Pure Try.prog 18 [dayV d] (.tup [d.bndR, iV d.bndE]) := by
  unfold DayD.bndR DayD.bndE
  by_cases ho : d.seen.outs = []
  · rw [if_pos ho, if_pos ho]
    exact bounds_err d 11 (by decide) (open_none d hs hc ho)
  · rw [if_neg ho, if_neg ho]
    exact boundsV_ok d hs hc ho
end Go.Fz
namespace Go.Fz
open Go.Proofs
set_option maxRecDepth 100000
end Go.Fz
namespace Go.Fz
open Go.Proofs
set_option maxRecDepth 100000
def DayD.okC (d : DayD) (f : Nat → Int) (i : Nat) : Bool := d.rightB (d.tally (truF d f)) i
theorem wrong_no {d : DayD} (hn : d.nc ≤ 5) (f : Nat → Int) : wrongOf d f = noMk ↔ ∀ j, j < d.nc → d.okC f j = true := by
  have hw : wrongOf d f = (wrM (d.okC f) d.nc 0, wrM (d.okC f) d.nc 1, wrM (d.okC f) d.nc 2, wrM (d.okC f) d.nc 3, wrM (d.okC f) d.nc 4) := rfl
  rw [hw]
  generalize d.okC f = r
  have hm : ∀ j, wrM r d.nc j = false ↔ (j < d.nc → r j = true) := fun j => by
    unfold wrM
    cases r j <;> simp
  constructor
  · intro h j hj
    simp only [noMk, Prod.mk.injEq] at h
    obtain ⟨h0, h1, h2, h3, h4⟩ := h
    have hj5 : j < 5 := by omega
    match j, hj5 with
    | 0, _ => exact (hm 0).1 h0 hj
    | 1, _ => exact (hm 1).1 h1 hj
    | 2, _ => exact (hm 2).1 h2 hj
    | 3, _ => exact (hm 3).1 h3 hj
    | 4, _ => exact (hm 4).1 h4 hj
  · intro h
    simp only [noMk, Prod.mk.injEq]
    exact ⟨(hm 0).2 (h 0), (hm 1).2 (h 1), (hm 2).2 (h 2), (hm 3).2 (h 3), (hm 4).2 (h 4)⟩
end Go.Fz
namespace Go.Fz
open Go.Proofs
set_option maxRecDepth 100000
theorem risE_lt {many : Nat} : ∀ (m : Nat) (p : List Nat) (s : Nat) (l : List Nat), l ∈ risE many m p s → (∀ x ∈ p, x < many) → ∀ x ∈ l, x < many
  | 0, p, s, l, h, hp => by rw [List.mem_singleton.1 h]; exact hp
  | m + 1, p, s, l, h, hp => by
    obtain ⟨c, hc, hl⟩ := List.mem_flatMap.1 h
    have hc' := List.mem_range.1 hc
    refine risE_lt m _ _ l hl fun x hx => ?_
    rcases List.mem_append.1 hx with hx | hx
    · exact hp x hx
    · rw [List.mem_singleton.1 hx]; omega
theorem risL_lt {many : Nat} {l : List Nat} (h : l ∈ risL many) : ∀ x ∈ l, x < many := by
  obtain ⟨m, _, hl⟩ := List.mem_flatMap.1 h
  exact risE_lt m [] 0 l hl fun x hx => by cases hx
def DayD.setQ (d : DayD) (outs : List (Nat → Int)) (l : List Nat) : Bool := allN outs.length fun i => allN i fun j =>
  !(allN 4 fun m => decide (fvF (nthF outs i) (fun k => ((l.getD k 0 : Nat) : Int)) l.length m = fvF (nthF outs j) (fun k => ((l.getD k 0 : Nat) : Int)) l.length m)) || decide ((d.tally (truF d (nthF outs j))).flats = (d.tally (truF d (nthF outs i))).flats)
theorem setQ_iff (d : DayD) (outs : List (Nat → Int)) (l : List Nat) : d.setQ outs l = true ↔ ∀ i, i < outs.length → ∀ j, j < i → (∀ m, m < 4 → fvF (nthF outs i) (fun k => ((l.getD k 0 : Nat) : Int)) l.length m = fvF (nthF outs j) (fun k => ((l.getD k 0 : Nat) : Int)) l.length m) →
    (d.tally (truF d (nthF outs j))).flats = (d.tally (truF d (nthF outs i))).flats := by
  unfold DayD.setQ
  simp only [allN, decide_eq_true_eq, Bool.or_eq_true, Bool.not_eq_true', decide_eq_false_iff_not]
  constructor
  · intro h i hi j hj hm
    rcases h i hi j hj with h1 | h1
    · exact absurd hm h1
    · exact h1
  · intro h i hi j hj
    by_cases hm : ∀ m, m < 4 → fvF (nthF outs i) (fun k => ((l.getD k 0 : Nat) : Int)) l.length m = fvF (nthF outs j) (fun k => ((l.getD k 0 : Nat) : Int)) l.length m
    · exact .inr (h i hi j hj hm)
    · exact .inl hm
theorem outs_in {d : DayD} (hc : d.check = 0) {f : Nat → Int} (hf : f ∈ d.seen.outs) (j : Nat) : 0 ≤ f j ∧ f j ≤ 1000000 := by
  obtain ⟨t, h1, h2, _⟩ := (seen_out d f).1 hf
  have g := unk_in (good_of_check hc)
  rw [← h2]
  unfold cutF
  split
  · rename_i h
    have := h1 j h
    have := g j h
    omega
  · omega
theorem fewestP_ok (d : DayD) (hs : d.small) (hc : d.check = 0) (hne : d.seen.outs ≠ []) : Pure Try.prog 27 [dayV d] (.tup [fewV (d.setQ d.seen.outs) d.nw, iV (fewE (d.setQ d.seen.outs) d.nw)]) := by
  have g := good_of_check hc
  have hnw := g.nw
  have hin : ∀ f ∈ d.seen.outs, ∀ j, 0 ≤ f j ∧ f j ≤ 1000000 := fun f hf j => outs_in hc hf j
  have hlen := foldE_outs d hc
  cases ho : d.seen.outs with
  | nil => exact absurd ho hne
  | cons f0 l0 =>
    have e2 := open_ok d hs hc f0 l0 ho
    rw [ho] at hin hlen
    obtain ⟨outs, houts⟩ : ∃ o, f0 :: l0 = o := ⟨_, rfl⟩
    have hl : l0.length + 1 = outs.length := by rw [← houts]; rfl
    have hA : ∀ i j, 0 ≤ nthF outs i j ∧ nthF outs i j ≤ 1000000 := fun i j => by
      unfold nthF
      by_cases hi : i < outs.length
      · rw [List.getD_eq_getElem?_getD, List.getElem?_eq_getElem hi, Option.getD_some]
        exact hin _ (by rw [houts]; exact List.getElem_mem hi) j
      · rw [List.getD_eq_getElem?_getD, List.getElem?_eq_none (by omega)]
        show (0 : Int) ≤ 0 ∧ (0 : Int) ≤ 1000000
        omega
    rw [houts] at hlen
    rw [houts]
    have hX : outsI d (f0 :: l0) = .isl outs.length 8 false (outG d outs) := by
      show AV.isl (l0.length + 1) 8 false (outG d (f0 :: l0)) = _
      rw [hl, houts]
    refine fewest_core d outs.length (outG d outs) (mapE mkV d.seen.E) d.seen.cl (d.setQ outs) (by rw [← hX]; exact outsI_below d _) (mapE_closed _) (by omega) (fun l hlm => ?_) ?_
    · rw [outG_X]
      have hll := risL_len hlm
      have hlt := risL_lt hlm
      refine settles_ok d.nw d.nl _ _ _ _ _ _ _ _ d.hand d.flat d.nw d.nl d.nc (womC d) (lotC d) (cntC d) (womsV_below d) (lotsV_below d) (cntsV_below d) outs.length l.length (fun k => ((l.getD k 0 : Nat) : Int)) (by omega) (by omega) (by omega) (fun k hk => ?_) hA (d.setQ outs l) (fun h => ?_) (fun i j hi hj hm hne' => ?_)
      · have : l.getD k 0 < d.nw := hlt _ (by rw [List.getD_eq_getElem?_getD, List.getElem?_eq_getElem hk]; exact List.getElem_mem hk)
        show (0 : Int) ≤ ((l.getD k 0 : Nat) : Int) ∧ ((l.getD k 0 : Nat) : Int) < (d.nw : Int)
        omega
      · exact (setQ_iff d outs l).2 fun i hi j hj hm => h i j hi hj hm
      · rw [← Bool.not_eq_true]; exact fun h => hne' ((setQ_iff d outs l).1 h i hi j hj hm)
    · have : (fun k => AV.tup [workM d (f0 :: l0) k, iV 0]) = fun k => .tup [.agg [iV d.hand, iV d.flat, womsV d, lotsV d, cntsV d, .isl outs.length 8 false (outG d outs), .mp k], iV 0] := by
        funext k
        unfold workM workC
        rw [hX]
      rw [← this]
      exact e2
end Go.Fz
namespace Go.Fz
open Go.Proofs
set_option maxRecDepth 100000
def leaveV (E : List (Mk × Nat)) (many : Nat) : AV := match (risL many).find? (leaveQ E) with
  | some l => lsV l
  | none => nl3
theorem leaveV_below (E : List (Mk × Nat)) (many : Nat) : Below 0 (leaveV E many) := by
  unfold leaveV; split
  · exact lsV_below _
  · exact Below.lit
set_option maxHeartbeats 16000000 in
theorem leave_core (d : DayD) (E : List (Mk × Nat)) (cl : Nat) (l : List (Nat → Int)) (hb : Born E cl) (hnc : d.nc < 100)
    (e1 : Pure Try.prog 40 [dayV d] (iV 0)) (e2 : Fresh Try.prog 76 [dayV d] (workM d l) (mapE mkV E) cl) :
    Pure Try.prog 31 [dayV d] (.tup [leaveV E d.nc, iV 0]) := by
  obtain ⟨O, hO⟩ : ∃ O : Ar, O = std := ⟨_, rfl⟩
  refine pure_of_body tok 3 Try.func31 en31 rfl ⟨dayV_below d, trivial⟩ (Below.tup (AllB.ok ⟨leaveV_below _ _, Below.lit, trivial⟩)) ?_
  have hWW : workM d l = fun k => .agg [iV d.hand, iV d.flat, womsV d, lotsV d, cntsV d, outsI d l, .mp k] := rfl
  rw [hWW] at e2
  have hXb := outsI_below d l
  have hXO : outsI d l = nl3 ∨ ∃ L G, outsI d l = .isl L 8 false G := by
    cases l with
    | nil => exact .inl rfl
    | cons f l => exact .inr ⟨_, _, rfl⟩
  generalize outsI d l = XO at e2 hXO hXb
  have hris := rising101 (K := leK d XO E cl) (stop := leS d XO E cl) (ok := fun l => l.length < 1000) (mc := 4) (y := 6) (many := d.nc) (by omega) hnc (fun s h n hk => by
      obtain ⟨rfl, hn, _⟩ := hk
      exact ⟨hn, fun x hx => by obtain ⟨k1, k2, _⟩ := leH_mem _ _ _ hx; exact ⟨by omega, k2⟩, none, false, rfl⟩)
    (fun s l h n hk => by
      obtain ⟨rfl, hn, _⟩ := hk
      exact ⟨hn, fun x hx => by have := (leH_mem _ _ _ hx).1; omega⟩)
    (fun s h n n' hk hle => by
      obtain ⟨rfl, hn, hs⟩ := hk
      exact ⟨rfl, by omega, hs⟩) (fun l hl => by have := risL_len hl; show l.length < 1000; omega) (le_step d XO E cl hXb hb) (leH d XO (mapE mkV E) cl leR nl3) 7 (by omega) ⟨rfl, by omega, fun _ h => nomatch h⟩
  have hfinN : (∀ l ∈ risL d.nc, leaveQ E l = false) → leaveV E d.nc = nl3 := fun h => by
    unfold leaveV
    rw [List.find?_eq_none.2 fun l hl => by rw [h l hl]; simp]
  have hfinS : ∀ pre l post, risL d.nc = pre ++ l :: post → (∀ l' ∈ pre, leaveQ E l' = false) → leaveQ E l = true → leaveV E d.nc = lsV l := fun pre l post h1 h2 h3 => by
    unfold leaveV
    rw [h1, List.find?_append, List.find?_eq_none.2 fun l hl => by rw [h2 l hl]; simp, List.find?_cons, h3]
    rfl
  generalize leaveV E d.nc = LV at hfinN hfinS ⊢
  unfold leK leS at hris
  obtain ⟨ME, hME⟩ : ∃ m, mapE mkV E = m := ⟨_, rfl⟩
  rw [hME] at e2 hris
  refine SW.seqRun tok hO (by cbv <;> rfl) (by trivial) ?_
  refine SW.scope ?_
  refine SW.seq ?_
  refine SW.seqRun tok hO (by cbv <;> rfl) (by trivial) ?_
  refine OpsW.callP e1 (by cbv <;> rfl) ?_
  refine OpsW.run tok hO (by cbv <;> rfl) (by trivial) ?_
  refine SW.seqRun tok hO (by cbv <;> rfl) (by trivial) ?_
  refine SW.condS (by cbv <;> rfl) (fun h1 => ?_) (fun h1 => SW.skip ?_)
  · exfalso
    subst hO; simp [std] at h1
  refine SW.seq ((show SW Try.prog none _ (midK 33 [(1, .ptr 0 0), (5, .ptr 2 0)] ⟨[(2, .cells none false [iV d.hand, iV d.flat, womsV d, lotsV d, cntsV d, XO, .mp 1]), (1, .map ME cl), (0, .cells none false (dayC d))], 3⟩) _ _ from ?_).mono fun e f st hm => ?_)
  · rcases hXO with rfl | ⟨L, G, rfl⟩
    · refine SW.runN tok hO 1 (by cbv <;> rfl) (by trivial) ?_
      refine OpsW.callS e2.ent (e2.call _) (by cbv <;> rfl) fun v st' hk => ?_
      obtain ⟨rfl, rfl⟩ := hk
      refine OpsW.run tok hO (by cbv <;> rfl) (by trivial) ?_
      exact ⟨rfl, _, rfl, ⟨rfl, rfl, trivial⟩, rfl⟩
    · refine SW.runN tok hO 1 (by cbv <;> rfl) (by trivial) ?_
      refine OpsW.callS e2.ent (e2.call _) (by cbv <;> rfl) fun v st' hk => ?_
      obtain ⟨rfl, rfl⟩ := hk
      refine OpsW.run tok hO (by cbv <;> rfl) (by trivial) ?_
      exact ⟨rfl, _, rfl, ⟨rfl, rfl, trivial⟩, rfl⟩
  obtain ⟨rfl, g, rfl, ⟨g1, g5, _⟩, rfl⟩ := hm
  simp only at g1 g5
  rw [← updT_self g1, ← updT_self g5]
  clear e2 hXO
  show SW _ _ _ _ _ _
  refine SW.seqRun tok hO (by cbv <;> rfl) (by trivial) ?_
  refine SW.seq (SW.label ?_)
  refine SW.seq ?_
  refine SW.seqRun tok hO (by cbv <;> rfl) (by trivial) ?_
  refine OpsW.callS en74 (rising74 (many := d.nc) _ _) (by cbv <;> rfl) fun v st' hk => ?_
  obtain ⟨rfl, rfl⟩ := hk
  refine OpsW.run tok hO (by cbv <;> rfl) (by trivial) ?_
  refine SW.block ?_
  refine SW.pre (f2 := ⟨⟨33, getT leL⟩, []⟩) (st2 := ⟨[(4, .cells none false [iV (d.nc : Int)]), (3, .cells none false [nl3]), (2, .cells none false [iV d.hand, iV d.flat, womsV d, lotsV d, cntsV d, XO, .mp 1]), (1, .map ME cl), (0, .cells none false (dayC d))], 5⟩) ?_ ?_
  · exact Weak.by rfl rfl (fun _ h => nomatch h) (Nat.le_refl _) (Nat.le_refl _) ⟨⟨rfl, .inl rfl⟩, ⟨rfl, .inl rfl⟩, ⟨rfl, .inl rfl⟩, trivial⟩ ⟨⟨rfl, by show _ < 5; omega, .inl rfl⟩, ⟨rfl, by show _ < 5; omega, .inl rfl⟩, ⟨rfl, by show _ < 5; omega, .inl rfl⟩, ⟨rfl, by show _ < 5; omega, .inl rfl⟩, ⟨rfl, by show _ < 5; omega, .inl rfl⟩, trivial⟩
  refine SW.rangeFunc (gf := 101) (first := []) (caps := [.ptr 4 0]) (by rfl) en101 ?_
  refine CallW.mono (show CallW Try.prog 101 [.yld 6, .ptr 4 0] ⟨leH d XO ME cl leR nl3, 7⟩ _ from hris) fun v st' hk => ?_
  obtain ⟨h, n, rfl, hk | ⟨pre, l, post, hE, hk⟩⟩ := hk
  · obtain ⟨rfl, hn, hseen⟩ := hk
    refine ⟨leR, rfl, (fun h => by simp [leR] at h), ?_⟩
    rw [hfinN hseen]
    show SW _ _ _ _ _ _
    refine SW.seqRun tok hO (by cbv <;> rfl) (by trivial) ?_
    exact SW.ret ⟨_, _, rfl, rfl, Eqv.of rfl⟩
  · obtain ⟨rfl, hn, hpre, hl⟩ := hk
    refine ⟨leRx, rfl, (fun h => by simp [leRx, leR] at h), ?_⟩
    rw [hfinS pre l post hE hpre hl]
    obtain ⟨N, fl, hlv⟩ : ∃ N fl, lsV l = intsV N false fl := ⟨_, _, rfl⟩
    rw [hlv]
    refine SW.exit ?_
    show SW _ _ _ _ _ _
    refine SW.seqRun tok hO (by cbv <;> rfl) (by trivial) ?_
    exact SW.ret ⟨_, _, rfl, rfl, Eqv.of rfl⟩
end Go.Fz
namespace Go.Fz
open Go.Proofs
set_option maxRecDepth 100000
theorem leaveA_ok (d : DayD) (hs : d.small) (hc : d.check = 0) : Pure Try.prog 31 [dayV d] (.tup [leaveV d.seen.E d.nc, iV 0]) := by
  have e1 := checkDay_ok d hs
  rw [hc] at e1
  have hnc := (good_of_check hc).nc
  exact leave_core d d.seen.E d.seen.cl d.seen.outs (seen_born d) (by omega) e1 (start_ok d hc)
end Go.Fz
namespace Go.Fz
open Go.Proofs
set_option maxRecDepth 100000
end Go.Fz
