/- Own work of the verifier of watercress: FzCl11, FzCl12, FzCl13, FzLw. -/
import Derived.Test.YtcjekdfncnmbfaaNa10
import Derived.Test.YtcjekdfncnmbfaaNa9
set_option linter.unusedVariables false
set_option linter.unusedSimpArgs false
set_option linter.unusedVariables false
namespace Go.Fz
section
variable {P : Program} {T : Ti}
theorem call_mpU {g : FuncId} {args args2 : List AV} {r : AV} {m mid : Nat} {es es' : List (AV × AV × Nat)} {clock clock' : Nat} {st : St} (hm : st.h.get mid = some (.map es clock))
    (hes : ∀ x ∈ es, Below 0 x.1 ∧ Below 0 x.2.1) (hes' : ∀ x ∈ es', Below 0 x.1 ∧ Below 0 x.2.1) (hr : Below 0 r)
    (ha : ∀ (φ : Fi) (us : List Value), VRL φ args us → VRL ⟨fun _ => φ.f mid, 1, φ.z⟩ args2 us)
    (h : CallW P g args2 (mpS es clock) (fun v st' => st'.h.get 0 = some (.map es' clock') ∧ freeB st'.h not0 = true ∧ Eqv (frz st'.h not0 m v) r)) : CallW P g args st (fun v st' => v = r ∧ st' = ⟨st.h.set mid (.map es' clock'), st.n⟩) := by
  intro φ w cargs n hrel hargs
  obtain ⟨φ0, hφ0⟩ : ∃ φ0 : Fi, φ0 = ⟨fun _ => φ.f mid, 1, φ.z⟩ := ⟨_, rfl⟩
  have f0 : φ0.f 0 = φ.f mid := by rw [hφ0]
  have n0 : φ0.n = 1 := by rw [hφ0]
  have z0 : φ0.z = φ.z := by rw [hφ0]
  have closed : ∀ {a : AV} {v : Value}, Below 0 a → VR φ a v → VR φ0 a v := fun hb h =>
    VR.mono (φ := ⟨φ.f, 0, φ.z⟩) (φ' := φ0) ⟨Nat.zero_le _, fun id hid => absurd hid (Nat.not_lt_zero id), fun b c hb => by rw [z0]; exact hb⟩ (hb _ _ h)
  have hrel0 : Rel φ0 (mpS es clock) w := by
    refine ⟨n0, fun j o h => ?_, fun j o h => ?_, fun j o h => ?_, fun i j oi oj hi hj hij ho hbb => ?_, fun j o f h hf => ?_, fun b c hb' => ?_⟩
    · obtain ⟨rfl, rfl⟩ := mpS_get h; show 0 < 1; omega
    · obtain ⟨rfl, rfl⟩ := mpS_get h; rw [f0]; exact hrel.blk _ _ hm
    · obtain ⟨rfl, rfl⟩ := mpS_get h
      obtain ⟨ces, h1, h2, h3⟩ := hrel.obj mid _ hm
      refine ⟨ces, by rw [f0]; exact h1, h2, fun i x hx => ?_⟩
      obtain ⟨e, k1, k2, k3, k4⟩ := h3 i x hx
      obtain ⟨b1, b2⟩ := hes x (List.mem_of_getElem? hx)
      exact ⟨e, k1, closed b1 k2, closed b2 k3, k4⟩
    · exfalso
      obtain ⟨rfl, rfl⟩ := mpS_get hi
      obtain ⟨rfl, rfl⟩ := mpS_get hj
      exact hij rfl
    · obtain ⟨rfl, rfl⟩ := mpS_get h; cases hf
    · obtain ⟨h1, h2, h3⟩ := hrel.froz b c (by rw [← z0]; exact hb')
      refine ⟨h1, h2, fun j o h ho => ?_⟩
      obtain ⟨rfl, rfl⟩ := mpS_get h
      rw [f0]; exact h3 mid _ hm rfl
  refine (h φ0 w cargs n hrel0 (by have := ha φ _ hargs; rw [hφ0]; exact this)).mono fun e w1 hp => ?_
  obtain ⟨v, cv, st1, φ1, rfl, ⟨hmap, hfree, hv⟩, hvr, hext, hrel1, hfr⟩ := hp
  obtain ⟨hrel2, hfr2⟩ := hrel1.freeze hfree
  have hvr2 := frz_ok (D := not0) hrel1 m hvr
  replace hvr2 := hv _ _ hvr2
  have hfr3 := hfr.trans hfr2
  have e0 : φ1.f 0 = φ.f mid := (hext.f 0 (by rw [n0]; omega)).trans f0
  have hown : ∀ b, Owns φ0 (mpS es clock) b → b = (φ.f mid).b := fun b ⟨j, o, h, ho, hb⟩ => by
    obtain ⟨rfl, rfl⟩ := mpS_get h
    rw [← hb, f0]
  have hkeep : (st1.keep fun i => !not0 i).h.get 0 = some (.map es' clock') := Hp.filter_get (p := fun i => !not0 i) hmap (by rfl)
  have hzs : ∀ b c, zOf φ1 st1.h not0 w1 b = some c → φ.z b = some c ∨ w.heap.size ≤ b := fun b c hb => by
    rcases hfr3.zs b c hb with h | h | h
    · exact .inl (by rw [← z0]; exact h)
    · exfalso
      exact (hrel2.froz b c hb).2.2 0 _ hkeep rfl (by show (φ1.f 0).b = b; rw [e0, hown b h])
    · exact .inr h
  have hext3 : Ext φ ⟨φ.f, φ.n, zOf φ1 st1.h not0 w1⟩ := ⟨Nat.le_refl _, fun _ _ => rfl, fun b c hb => zOf_old (hext.z b c (by rw [z0]; exact hb))⟩
  have hback : ∀ {a : AV} {v : Value}, Below 0 a → VR ⟨φ1.f, φ1.n, zOf φ1 st1.h not0 w1⟩ a v → VR ⟨φ.f, φ.n, zOf φ1 st1.h not0 w1⟩ a v := fun hb h =>
    VR.mono (φ := ⟨φ1.f, 0, zOf φ1 st1.h not0 w1⟩) (φ' := ⟨φ.f, φ.n, zOf φ1 st1.h not0 w1⟩) ⟨Nat.zero_le _, fun id hid => absurd hid (Nat.not_lt_zero id), fun b c hb => hb⟩ (hb _ _ h)
  have hsame : ∀ k, k < w.heap.size → k ≠ (φ.f mid).b → w1.heap[k]? = w.heap[k]? := fun k hk hne => hfr3.block k hk fun ho => hne (hown k ho)
  have hgs : ∀ id o, (st.h.set mid (.map es' clock')).get id = some o → (id = mid ∧ o = .map es' clock') ∨ (id ≠ mid ∧ st.h.get id = some o) := fun id o h => by
    rw [Hp.get_set] at h
    split at h
    · rename_i hc; cases h; exact .inl ⟨hc.1, rfl⟩
    · rename_i hc
      refine .inr ⟨fun e => hc ⟨e, by rw [hm]; rfl⟩, h⟩
  refine ⟨r, cv, ⟨st.h.set mid (.map es' clock'), st.n⟩, ⟨φ.f, φ.n, zOf φ1 st1.h not0 w1⟩, rfl, ⟨rfl, rfl⟩, hback hr hvr2, hext3, ?_, ?_⟩
  · refine ⟨hrel.n, fun id o ho => ?_, fun id o ho => ?_, fun id o ho => ?_, fun i j oi oj hi hj hne ho he => ?_, fun id o f ho hf => ?_, fun b c hb => ?_⟩
    · rcases hgs id o ho with ⟨rfl, rfl⟩ | ⟨_, ho⟩
      · exact hrel.lt _ _ hm
      · exact hrel.lt _ _ ho
    · rcases hgs id o ho with ⟨rfl, rfl⟩ | ⟨_, ho⟩
      · exact Nat.lt_of_lt_of_le (hrel.blk _ _ hm) hfr3.size
      · exact Nat.lt_of_lt_of_le (hrel.blk _ _ ho) hfr3.size
    · rcases hgs id o ho with ⟨rfl, rfl⟩ | ⟨hi, ho⟩
      · obtain ⟨ces, h1, h2, h3⟩ := hrel1.obj 0 _ hmap
        refine ⟨ces, by rw [← h1, e0], h2, fun i x hx => ?_⟩
        obtain ⟨e, k1, k2, k3, k4⟩ := h3 i x hx
        obtain ⟨b1, b2⟩ := hes' x (List.mem_of_getElem? hx)
        have hz : Ext φ1 ⟨φ1.f, φ1.n, zOf φ1 st1.h not0 w1⟩ := ⟨Nat.le_refl _, fun _ _ => rfl, fun b c hb => zOf_old hb⟩
        exact ⟨e, k1, hback b1 (k2.mono hz), hback b2 (k3.mono hz), k4⟩
      · refine (hrel.obj id o ho).same hext3 (by rw [hrel.n]; exact hrel.lt id o ho) (hsame _ (hrel.blk id o ho) fun he => ?_)
        obtain ⟨⟨f, hf, _⟩, _⟩ := hrel.sep mid id _ o hm ho (Ne.symm hi) rfl he.symm
        cases hf
    · rcases hgs i oi hi with ⟨rfl, rfl⟩ | ⟨hi1, hi2⟩
      · rcases hgs j oj hj with ⟨rfl, rfl⟩ | ⟨hj1, hj2⟩
        · exact absurd rfl hne
        · obtain ⟨⟨f, hf, _⟩, _⟩ := hrel.sep _ j _ oj hm hj2 hne rfl he
          cases hf
      · rcases hgs j oj hj with ⟨rfl, rfl⟩ | ⟨hj1, hj2⟩
        · obtain ⟨⟨f, _, hf⟩, _⟩ := hrel.sep i _ oi _ hi2 hm hne ho he
          cases hf
        · exact hrel.sep i j oi oj hi2 hj2 hne ho he
    · rcases hgs id o ho with ⟨rfl, rfl⟩ | ⟨_, ho⟩
      · cases hf
      · exact hrel.fam id o f ho hf
    · obtain ⟨h1, h2, _⟩ := hrel2.froz b c hb
      refine ⟨h1, h2, fun id o ho hown' hbb => ?_⟩
      have hold : ∃ o', st.h.get id = some o' ∧ o'.own = true := by
        rcases hgs id o ho with ⟨rfl, rfl⟩ | ⟨_, ho⟩
        · exact ⟨_, hm, rfl⟩
        · exact ⟨_, ho, hown'⟩
      obtain ⟨o', ho', hown''⟩ := hold
      rcases hzs b c hb with h3 | h3
      · exact (hrel.froz b c h3).2.2 id o' ho' hown'' hbb
      · have := hrel.blk id o' ho'
        have hbb' : (φ.f id).b = b := hbb
        omega
  · exact ⟨hfr3.os, hfr3.tape, hfr3.output, hfr3.size, fun k hk hno => hsame k hk (fun he => hno ⟨mid, _, hm, rfl, he.symm⟩), fun k ⟨id, o, ho, hown', hbb⟩ => .inl (by
      rcases hgs id o ho with ⟨rfl, rfl⟩ | ⟨_, ho⟩
      · exact ⟨_, _, hm, rfl, hbb⟩
      · exact ⟨_, _, ho, hown', hbb⟩), fun b c hb => (hzs b c hb).elim .inl fun h => .inr (.inr h)⟩
end
end Go.Fz
set_option linter.unusedVariables false
namespace Go.Fz
open Go.Proofs
set_option maxRecDepth 100000
noncomputable def mrParts : Code × Code := match findRF (bodyF Try.f112) with
  | some p => p
  | none => (.skip, .skip)
def mrL : List (Nat × AV) := [(4, .ptr 1 0), (5, .ptr 2 0), (7, .ptr 3 0), (17, .fn (.func 97) [] [.ptr 4 0])]
noncomputable def mrR : ALoop := { state := .ready, pending := none, tmps := ⟨25, getT mrL⟩, params := #[18], assign := mrParts.1, body := mrParts.2, dfid := 5 }
def mrH (y : YardD) (ME : List (AV × AV × Nat)) (cl : Nat) (bd lo hi : Int) (B : Bool) (r : ALoop) : Hp :=
  [(6, .loop r), (5, .dfr), (4, .cells none false [iV lo, iV hi]), (3, .cells none false [.sb B]), (2, .cells none false [iV bd]), (1, .cells none false (workC y (.mp 0))), (0, .map ME cl)]
theorem mr_round (y : YardD) (bd : Int) (hb1 : 0 ≤ bd) (hb2 : bd ≤ 100) (w : Int) (h1 : -10 ≤ w) (h2 : w ≤ 1000) (E : Mk4) (hn : (E.map (·.1.1)).Nodup) (cl : Nat) (lo hi : Int) (B : Bool) :
    YieldW Try.prog 6 [iV w] ⟨mrH y (mkE E) cl bd lo hi B mrR, 7⟩ (fun v st' => v = .lit (.bool true) ∧ st' = ⟨mrH y (mkE (gmPut E (pl bd w) B cl)) (gmC E (pl bd w) cl) bd lo hi B mrR, 7⟩) := by
  obtain ⟨O, hO⟩ : ∃ O : Ar, O = std := ⟨_, rfl⟩
  have hkv : plV (pl bd w) = .agg [iV bd, iV w] := plV_in (by omega) (by omega) h1 h2
  obtain ⟨ME, hME⟩ : ∃ m, mkE E = m := ⟨_, rfl⟩
  rw [hME]
  refine YieldW.of_round (r := mrR) rfl rfl ?_
  refine SW.run tok hO (by cbv <;> rfl) (by trivial) ?_
  refine ⟨mrR, rfl, rfl, SW.block ?_⟩
  obtain ⟨RB, hRB⟩ : ∃ r, r = ({ mrR with state := .busy } : ALoop) := ⟨_, rfl⟩
  rw [← hRB]
  refine SW.runN tok hO 6 (by cbv <;> rfl) (by trivial) ?_
  refine OpsW.gmUpd tok keyed147 plKey boolVal (pl bd w) B hn (by cbv <;> rfl) (by rw [hkv]; exact Eqv.refl _) (Eqv.lit (c := B) rfl) (by kernel_rfl) (clock := cl) (by rw [← hME]; rfl) ?_
  refine OpsW.nil ?_
  subst hRB
  exact ⟨_, rfl, rfl, rfl⟩
def mkP (b v : Int) (B : Bool) (E : Mk4) (cl : Nat) : Nat → Mk4 × Nat
  | 0 => (E, cl)
  | j + 1 => (gmPut (mkP b v B E cl j).1 (pl b (v + j)) B (mkP b v B E cl j).2, gmC (mkP b v B E cl j).1 (pl b (v + j)) (mkP b v B E cl j).2)
theorem mkP_nodup {b v : Int} {B : Bool} {E : Mk4} {cl : Nat} (hn : (E.map (·.1.1)).Nodup) : ∀ j, ((mkP b v B E cl j).1.map (·.1.1)).Nodup
  | 0 => hn
  | j + 1 => gmPut_nodup (mkP_nodup hn j) _ _ _
set_option maxHeartbeats 8000000 in
theorem mark_ok (y : YardD) (hy : y.nb < 100) (b : Nat) (hb : b < y.nb) (hl : 1 ≤ y.lng b ∧ y.lng b ≤ 3) (v : Int) (h1 : 0 ≤ v) (h2 : v ≤ 100) (B : Bool) (E : Mk4) (hn : (E.map (·.1.1)).Nodup) (cl : Nat) :
    CallW Try.prog 112 [.agg (workC y (.mp 0)), iV (b : Int), iV v, .lit (.bool B)] (mpS (mkE E) cl) (fun r st' => st'.h.get 0 = some (.map (mkE (mkP b v B E cl (y.lng b).toNat).1) (mkP b v B E cl (y.lng b).toNat).2) ∧ freeB st'.h not0 = true ∧ Eqv (frz st'.h not0 3 r) (.tup [])) := by
  obtain ⟨O, hO⟩ : ∃ O : Ar, O = std := ⟨_, rfl⟩
  have hnat : ∀ i : Nat, O.nat (Int.ofNat i) = i := fun i => by subst hO; rfl
  have hem := emptyFrom_ok (y.lng b) (y.blo b) (y.bhi b) v
  have hhi : sub64 (add64 v (y.lng b)) 1 = bedHi y b v := by
    rw [add64_in _ _ (by omega) (by omega), sub64_in _ _ (by omega) (by omega)]; rfl
  rw [hhi] at hem
  have hcnt : (bedHi y b v - v + 1).toNat = (y.lng b).toNat := by unfold bedHi; omega
  have hbh : v ≤ bedHi y b v + 1 ∧ bedHi y b v ≤ 1000 := by unfold bedHi; omega
  obtain ⟨hi, hhi⟩ : ∃ x, bedHi y b v = x := ⟨_, rfl⟩
  rw [hhi] at hem hcnt hbh
  rw [← hcnt]
  obtain ⟨bb, hbb⟩ : ∃ bb : Int, (b : Int) = bb := ⟨_, rfl⟩
  have hb01 : 0 ≤ bb ∧ bb ≤ 100 := by omega
  have hall := all97 (K := fun i st => st = ⟨mrH y (mkE (mkP bb v B E cl i).1) (mkP bb v B E cl i).2 bb v hi B mrR, 7⟩) (stop := fun i st => False) (y := 6) (m := 4) (lo := v) (hi := hi) (by omega) hbh.2 hbh.1 (fun i st hk => by rw [hk]; exact ⟨none, false, rfl⟩)
    (fun i st hi' hk => by
      rw [hk]
      refine (mr_round y bb hb01.1 hb01.2 (v + i) (by omega) (by omega) (mkP bb v B E cl i).1 (mkP_nodup hn i) _ v hi B).mono fun r st' hr => ?_
      exact .inl ⟨hr.1, hr.2⟩) (st := ⟨mrH y (mkE E) cl bb v hi B mrR, 7⟩) rfl
  rw [hbb]
  obtain ⟨E2, hE2⟩ : ∃ e, mkP bb v B E cl (hi - v + 1).toNat = e := ⟨_, rfl⟩
  rw [hE2] at hall ⊢
  obtain ⟨ME, hME⟩ : ∃ m, mkE E = m := ⟨_, rfl⟩
  obtain ⟨ME2, hME2⟩ : ∃ m, mkE E2.1 = m := ⟨_, rfl⟩
  obtain ⟨cl2, hcl2⟩ : ∃ m, E2.2 = m := ⟨_, rfl⟩
  rw [hME, hME2, hcl2] at hall
  rw [hME, hME2, hcl2]
  rw [← hbb]
  rw [← hbb] at hall
  refine callW_of_body tok Try.func112 rfl ?_
  refine SW.seqRun tok hO (by cbv <;> rfl) (by trivial) ?_
  refine SW.seq ?_
  refine SW.run tok hO (by cbv <;> rfl) ?_ ?_
  · exact ⟨Int.natCast_nonneg b, Int.ofNat_lt.2 hb⟩
  rw [← hnat b] at hem
  refine OpsW.callP hem (by cbv <;> rfl) ?_
  refine OpsW.run tok hO (by cbv <;> rfl) (by trivial) ?_
  refine OpsW.callS en71 (range71 v hi _ _) (by cbv <;> rfl) fun r st' hk => ?_
  obtain ⟨rfl, rfl⟩ := hk
  refine OpsW.run tok hO (by cbv <;> rfl) (by trivial) ?_
  refine SW.block ?_
  refine SW.pre (f2 := ⟨⟨25, getT mrL⟩, []⟩) (st2 := ⟨[(4, .cells none false [iV v, iV hi]), (3, .cells none false [.sb B]), (2, .cells none false [iV b]), (1, .cells none false (workC y (.mp 0))), (0, .map ME cl)], 5⟩) ?_ ?_
  · exact Weak.by rfl rfl (fun _ h => nomatch h) (Nat.le_refl _) (Nat.le_refl _) ⟨⟨rfl, .inl rfl⟩, ⟨rfl, .inl rfl⟩, ⟨rfl, .inl rfl⟩, ⟨rfl, .inl rfl⟩, trivial⟩ ⟨⟨rfl, by show _ < 5; omega, .inl rfl⟩, ⟨rfl, by show _ < 5; omega, .inl rfl⟩, ⟨rfl, by show _ < 5; omega, .inl rfl⟩, ⟨rfl, by show _ < 5; omega, .inl rfl⟩, ⟨rfl, by show _ < 5; omega, .inl rfl⟩, trivial⟩
  refine SW.rangeFunc (gf := 97) (first := []) (caps := [.ptr 4 0]) (by rfl) en97 ?_
  refine CallW.mono (show CallW Try.prog 97 [.yld 6, .ptr 4 0] ⟨mrH y ME cl b v hi B mrR, 7⟩ _ from hall) fun r st' hk => ?_
  rcases hk with rfl | ⟨i, hi', hk⟩
  · refine ⟨mrR, rfl, (fun h => by simp [mrR] at h), ?_⟩
    exact ⟨_, _, rfl, rfl, rfl, rfl, Eqv.refl _⟩
  · exact hk.elim
theorem work_argL {y : YardD} {mid : Nat} {l : List AV} (hl : ∀ a ∈ l, Below 0 a) {φ : Fi} {us : List Value} (h : VRL φ (.agg (workC y (.mp mid)) :: l) us) : VRL ⟨fun _ => φ.f mid, 1, φ.z⟩ (.agg (workC y (.mp 0)) :: l) us := by
  have closed : ∀ {a : AV} {v : Value}, Below 0 a → VR φ a v → VR ⟨fun _ => φ.f mid, 1, φ.z⟩ a v := fun hb h =>
    VR.mono (φ := ⟨φ.f, 0, φ.z⟩) (φ' := ⟨fun _ => φ.f mid, 1, φ.z⟩) ⟨Nat.zero_le _, fun id hid => absurd hid (Nat.not_lt_zero id), fun b c hb => hb⟩ (hb _ _ h)
  have all : ∀ (l : List AV) (us : List Value), (∀ a ∈ l, Below 0 a) → VRL φ l us → VRL ⟨fun _ => φ.f mid, 1, φ.z⟩ l us := fun l => by
    induction l with
    | nil => intro us _ h; cases h; exact .nil
    | cons x l ih => intro us hl h; cases h with | cons h t => exact .cons (closed (hl _ List.mem_cons_self) h) (ih _ (fun a ha => hl a (List.mem_cons_of_mem _ ha)) t)
  cases h with
  | cons h t =>
    refine .cons ?_ (all l _ hl t)
    obtain ⟨vs, rfl, h1⟩ := h.agg_inv
    match vs, h1 with
    | [_, _, _, _, _], .cons h1 (.cons h2 (.cons h3 (.cons h4 (.cons h5 .nil)))) =>
      obtain ⟨rfl, _⟩ := h5.mp_inv
      exact .agg (.cons (closed Below.lit h1) (.cons (closed Below.lit h2) (.cons (closed (bedsV_below y) h3) (.cons (closed (clmsV_below y) h4) (.cons (.mp (φ := ⟨fun _ => φ.f mid, 1, φ.z⟩) 0 Nat.zero_lt_one) .nil)))))
theorem mark_at (y : YardD) (hy : y.nb < 100) (b : Nat) (hb : b < y.nb) (hl : 1 ≤ y.lng b ∧ y.lng b ≤ 3) (v : Int) (h1 : 0 ≤ v) (h2 : v ≤ 100) (B : Bool) (E : Mk4) (hn : (E.map (·.1.1)).Nodup) (cl : Nat) {st : St} {mid : Nat} (hm : st.h.get mid = some (.map (mkE E) cl)) :
    CallW Try.prog 112 [.agg (workC y (.mp mid)), iV (b : Int), iV v, .lit (.bool B)] st (fun r st' => r = .tup [] ∧ st' = ⟨st.h.set mid (.map (mkE (mkP b v B E cl (y.lng b).toNat).1) (mkP b v B E cl (y.lng b).toNat).2), st.n⟩) := by
  refine call_mpU (m := 3) hm (mkE_below E) (mkE_below _) (Below.tup (AllB.ok trivial)) (fun φ us h => ?_) (mark_ok y hy b hb hl v h1 h2 B E hn cl)
  exact work_argL (l := [iV (b : Int), iV v, .lit (.bool B)]) (AllB.ok ⟨Below.lit, Below.lit, Below.lit, trivial⟩) h
end Go.Fz
set_option linter.unusedVariables false
namespace Go.Fz
open Go.Proofs
theorem pl_inj {a w b u : Int} (h1 : -10 ≤ a) (h2 : a ≤ 1000) (h3 : -10 ≤ w) (h4 : w ≤ 1000) (k1 : -10 ≤ b) (k2 : b ≤ 1000) (k3 : -10 ≤ u) (k4 : u ≤ 1000) : pl a w = pl b u ↔ a = b ∧ w = u := by
  constructor
  · intro h
    have := congrArg (fun p => p.1) h
    simp only [pl_in h1 h2 h3 h4, pl_in k1 k2 k3 k4, Prod.mk.injEq] at this
    exact this
  · rintro ⟨rfl, rfl⟩; rfl
theorem empB_put {E : Mk4} (hn : (E.map (·.1.1)).Nodup) {B : Bool} {cl : Nat} {a w b u : Int} (h1 : -10 ≤ a) (h2 : a ≤ 1000) (h3 : -10 ≤ w) (h4 : w ≤ 1000) (k1 : -10 ≤ b) (k2 : b ≤ 1000) (k3 : -10 ≤ u) (k4 : u ≤ 1000) :
    empB (gmPut E (pl b u) B cl) a w = if a = b ∧ w = u then B else empB E a w := by
  unfold empB
  rw [gmGet_put hn]
  by_cases h : a = b ∧ w = u
  · rw [if_pos h, if_pos ((pl_inj h1 h2 h3 h4 k1 k2 k3 k4).2 h)]
  · rw [if_neg h, if_neg fun e => h ((pl_inj h1 h2 h3 h4 k1 k2 k3 k4).1 e)]
theorem empB_mk {E : Mk4} (hn : (E.map (·.1.1)).Nodup) {B : Bool} {cl : Nat} {b v : Int} (k1 : -10 ≤ b) (k2 : b ≤ 1000) (k3 : -10 ≤ v) {a w : Int} (h1 : -10 ≤ a) (h2 : a ≤ 1000) (h3 : -10 ≤ w) (h4 : w ≤ 1000) :
    ∀ j : Nat, v + j ≤ 1000 → empB (mkP b v B E cl j).1 a w = if a = b ∧ v ≤ w ∧ w < v + j then B else empB E a w
  | 0, _ => by rw [if_neg (by omega)]; rfl
  | j + 1, hj => by
    show empB (gmPut (mkP b v B E cl j).1 (pl b (v + j)) B (mkP b v B E cl j).2) a w = _
    rw [empB_put (mkP_nodup hn j) h1 h2 h3 h4 k1 k2 (by omega) (by omega), empB_mk hn k1 k2 k3 h1 h2 h3 h4 j (by omega)]
    by_cases e1 : a = b ∧ w = v + j
    · rw [if_pos e1, if_pos (by omega)]
    · rw [if_neg e1]
      by_cases e2 : a = b ∧ v ≤ w ∧ w < v + j
      · rw [if_pos e2, if_pos (by omega)]
      · rw [if_neg e2, if_neg (by omega)]
structure YardD.Rep (y : YardD) (P : List Nat) (f : Nat → Int) (E : Mk4) : Prop where
  nodup : (E.map (·.1.1)).Nodup
  is : ∀ a w : Int, -10 ≤ a → a ≤ 1000 → -10 ≤ w → w ≤ 1000 → (empB E a w = true ↔ ∃ b ∈ P, (b : Int) = a ∧ y.mt f b w = true)
theorem YardD.Rep.nil (y : YardD) (f : Nat → Int) : y.Rep [] f [] := ⟨List.nodup_nil, fun a w _ _ _ _ => ⟨fun h => (by cases h), fun ⟨_, h, _⟩ => (by cases h)⟩⟩
theorem YardD.Rep.congr {y : YardD} {P : List Nat} {f g : Nat → Int} {E : Mk4} (h : y.Rep P f E) (hfg : ∀ b ∈ P, f b = g b) : y.Rep P g E :=
  ⟨h.nodup, fun a w h1 h2 h3 h4 => (h.is a w h1 h2 h3 h4).trans ⟨fun ⟨b, hb, e, hm⟩ => ⟨b, hb, e, by rw [← mt_congr y (hfg b hb)]; exact hm⟩, fun ⟨b, hb, e, hm⟩ => ⟨b, hb, e, by rw [mt_congr y (hfg b hb)]; exact hm⟩⟩⟩
theorem YardD.Rep.mark {y : YardD} {P : List Nat} {f : Nat → Int} {E : Mk4} (h : y.Rep P f E) {b : Nat} {v : Int} (hb : b ≤ 100) (hP : b ∉ P) (hl : 1 ≤ y.lng b ∧ y.lng b ≤ 3) (h1 : 0 ≤ v) (h2 : v ≤ 100) (cl : Nat) :
    y.Rep (P ++ [b]) (setI f b v) (mkP b v true E cl (y.lng b).toNat).1 := by
  refine ⟨mkP_nodup h.nodup _, fun a w k1 k2 k3 k4 => ?_⟩
  rw [empB_mk h.nodup (by omega) (by omega) (by omega) k1 k2 k3 k4 _ (by omega)]
  have hmt : y.mt (setI f b v) b w = true ↔ v ≤ w ∧ w < v + (y.lng b).toNat := by
    simp only [YardD.mt, setI_self, Bool.and_eq_true, decide_eq_true_eq]; omega
  by_cases e : a = b ∧ v ≤ w ∧ w < v + (y.lng b).toNat
  · rw [if_pos e]
    exact ⟨fun _ => ⟨b, List.mem_append_right _ (List.mem_singleton.2 rfl), e.1.symm, hmt.2 e.2⟩, fun _ => rfl⟩
  · rw [if_neg e, h.is a w k1 k2 k3 k4]
    constructor
    · rintro ⟨c, hc, e1, hm⟩
      have : c ≠ b := fun e => hP (by rw [← e]; exact hc)
      exact ⟨c, List.mem_append_left _ hc, e1, by rw [mt_congr y (setI_ne this)]; exact hm⟩
    · rintro ⟨c, hc, e1, hm⟩
      rcases List.mem_append.1 hc with hc | hc
      · have : c ≠ b := fun e => hP (by rw [← e]; exact hc)
        exact ⟨c, hc, e1, by rw [← mt_congr y (setI_ne (f := f) (x := v) this)]; exact hm⟩
      · rw [List.mem_singleton.1 hc] at e1 hm
        exact absurd ⟨e1.symm, hmt.1 hm⟩ e
theorem YardD.Rep.unmark {y : YardD} {P : List Nat} {f : Nat → Int} {E : Mk4} {b : Nat} {v : Int} (h : y.Rep (P ++ [b]) (setI f b v) E) (hb : b ≤ 100) (hP : b ∉ P) (hl : 1 ≤ y.lng b ∧ y.lng b ≤ 3) (h1 : 0 ≤ v) (h2 : v ≤ 100) (cl : Nat) :
    y.Rep P f (mkP b v false E cl (y.lng b).toNat).1 := by
  refine ⟨mkP_nodup h.nodup _, fun a w k1 k2 k3 k4 => ?_⟩
  rw [empB_mk h.nodup (by omega) (by omega) (by omega) k1 k2 k3 k4 _ (by omega)]
  have hmt : y.mt (setI f b v) b w = true ↔ v ≤ w ∧ w < v + (y.lng b).toNat := by
    simp only [YardD.mt, setI_self, Bool.and_eq_true, decide_eq_true_eq]; omega
  by_cases e : a = b ∧ v ≤ w ∧ w < v + (y.lng b).toNat
  · rw [if_pos e]
    refine ⟨fun h => (by cases h), fun ⟨c, hc, e1, hm⟩ => ?_⟩
    exact absurd hc (by rw [show c = b by omega]; exact hP)
  · rw [if_neg e, h.is a w k1 k2 k3 k4]
    constructor
    · rintro ⟨c, hc, e1, hm⟩
      rcases List.mem_append.1 hc with hc | hc
      · have : c ≠ b := fun e => hP (by rw [← e]; exact hc)
        exact ⟨c, hc, e1, by rw [← mt_congr y (setI_ne (f := f) (x := v) this)]; exact hm⟩
      · rw [List.mem_singleton.1 hc] at e1 hm
        exact absurd ⟨e1.symm, hmt.1 hm⟩ e
    · rintro ⟨c, hc, e1, hm⟩
      have : c ≠ b := fun e => hP (by rw [← e]; exact hc)
      exact ⟨c, List.mem_append_left _ hc, e1, by rw [mt_congr y (setI_ne this)]; exact hm⟩
theorem busyN_rep {y : YardD} {P : List Nat} {f : Nat → Int} {E : Mk4} (h : y.Rep P f E) (hn : y.nb ≤ 100) (hP : P.Pairwise (· < ·)) (hb : ∀ b ∈ P, b < y.nb) (w : Int) (h1 : -10 ≤ w) (h2 : w ≤ 1000) : busyN E w y.nb = (y.busyP P f w : Int) := by
  have key : ∀ i, i ≤ y.nb → busyN E w i = ((P.filter (fun b => decide (b < i) && y.mt f b w)).length : Int) ∧ busyN E w i ≤ i := by
    intro i
    induction i with
    | zero =>
      intro _
      refine ⟨?_, Int.le_refl _⟩
      rw [List.filter_eq_nil_iff.2 (fun b _ => by simp)]
      rfl
    | succ i ih =>
      intro hi
      obtain ⟨e1, e2⟩ := ih (by omega)
      have hnn : 0 ≤ busyN E w i := by rw [e1]; exact Int.natCast_nonneg _
      have hs : busyN E w (i + 1) = if empB E i w then add64 (busyN E w i) 1 else busyN E w i := rfl
      have hadd : add64 (busyN E w i) 1 = busyN E w i + 1 := add64_in _ _ (by omega) (by omega)
      have hcount : (P.filter (fun b => decide (b < i + 1) && y.mt f b w)).length = (P.filter (fun b => decide (b < i) && y.mt f b w)).length + (if i ∈ P ∧ y.mt f i w = true then 1 else 0) := by
        clear e1 e2 hs hadd hnn hi ih h hb
        induction P with
        | nil => simp
        | cons x P ih =>
          rw [List.pairwise_cons] at hP
          have ih := ih hP.2
          by_cases hx : x = i
          · subst hx
            have hxP : x ∉ P := fun hm => Nat.lt_irrefl _ (hP.1 x hm)
            rw [if_neg (fun h => hxP h.1)] at ih
            by_cases hm : y.mt f x w = true
            · rw [List.filter_cons_of_pos (by simp [hm]), List.filter_cons_of_neg (by simp), if_pos ⟨List.mem_cons_self, hm⟩, List.length_cons, ih]
            · rw [List.filter_cons_of_neg (by simp [hm]), List.filter_cons_of_neg (by simp), if_neg (fun h => hm h.2), ih]
          · have hmem : (i ∈ x :: P ∧ y.mt f i w = true) ↔ (i ∈ P ∧ y.mt f i w = true) := by
              rw [List.mem_cons]
              exact ⟨fun h => ⟨h.1.resolve_left (fun e => hx e.symm), h.2⟩, fun h => ⟨.inr h.1, h.2⟩⟩
            simp only [hmem]
            have e1 : (decide (x < i + 1) && y.mt f x w) = (decide (x < i) && y.mt f x w) := by
              rw [decide_eq_decide.2 (show x < i + 1 ↔ x < i by omega)]
            simp only [List.filter_cons, e1]
            split
            · rw [List.length_cons, List.length_cons, ih]; omega
            · exact ih
      rw [hs, hcount]
      have he := h.is i w (by omega) (by omega) h1 h2
      by_cases hm : i ∈ P ∧ y.mt f i w = true
      · have : empB E i w = true := he.2 ⟨i, hm.1, rfl, hm.2⟩
        rw [if_pos this, if_pos hm, hadd, e1]
        refine ⟨by omega, by omega⟩
      · have : ¬ empB E i w = true := fun h => by
          obtain ⟨b, hb, e, hm'⟩ := he.1 h
          obtain rfl : b = i := by omega
          exact hm ⟨hb, hm'⟩
        rw [if_neg this, if_neg hm, e1]
        refine ⟨by omega, by omega⟩
  rw [(key y.nb (Nat.le_refl _)).1]
  unfold YardD.busyP
  rw [List.filter_congr fun b hbm => by rw [decide_eq_true (hb b hbm), Bool.true_and]]
theorem allows_rep {y : YardD} {P : List Nat} {f : Nat → Int} {E : Mk4} (h : y.Rep P f E) (hn : y.nb ≤ 100) (hP : P.Pairwise (· < ·)) (hb : ∀ b ∈ P, b < y.nb) (b : Nat) (hb1 : b ≤ 100) (hl : 1 ≤ y.lng b ∧ y.lng b ≤ 3) (v : Int) (h1 : 0 ≤ v) (h2 : v ≤ 100) : allowsN y E b v = y.okAt P f b v := by
  rw [Bool.eq_iff_iff, okAt_iff]
  unfold allowsN endsN handsN apartN
  simp only [Bool.and_eq_true, allN, decide_eq_true_eq, handsQ, YardD.hasWk, bedHi]
  constructor
  · rintro ⟨⟨e1, e2⟩, e3⟩
    refine ⟨of_decide_eq_true e1.2, fun k hk => ?_, fun k hk hc => ?_⟩
    · have := e2 k hk
      rwa [busyN_rep h hn hP hb (v + k) (by omega) (by omega)] at this
    · have := e3 k hk
      have he := (h.is ((b : Int) - 1) (v + k) (by omega) (by omega) (by omega) (by omega)).2 ⟨b - 1, hc.2.1, by omega, hc.2.2⟩
      rw [he] at this; cases this
  · rintro ⟨e1, e2, e3⟩
    refine ⟨⟨⟨by first | omega | exact decide_eq_true (by omega), by first | exact decide_eq_true e1 | exact e1⟩, fun k hk => ?_⟩, fun k hk => ?_⟩
    · rw [busyN_rep h hn hP hb (v + k) (by omega) (by omega)]
      exact e2 k hk
    · have hnb : ¬ empB E ((b : Int) - 1) (v + k) = true := fun he => by
        obtain ⟨c, hc, e, hm⟩ := (h.is ((b : Int) - 1) (v + k) (by omega) (by omega) (by omega) (by omega)).1 he
        obtain rfl : c = b - 1 := by omega
        exact e3 k hk ⟨by omega, hc, hm⟩
      simpa using hnb
end Go.Fz
set_option linter.unusedVariables false
namespace Go.Fz
section
variable {P : Program}
def LowO (m : Nat) (o : AObj) : Prop := o.fam = none ∧ o.own = true ∧ ∀ (ρ : Nat → Nat) (n : Nat), (∀ i, i < m → ρ i = i) → m ≤ n → RenX ρ n o o
def LowX (m : Nat) (h : Hp) : Prop := ∀ id o, h.get id = some o → id < m ∧ LowO m o
theorem LowX.cons {m id : Nat} {o : AObj} {h : Hp} (h1 : id < m) (h2 : LowO m o) (hh : LowX m h) : LowX m ((id, o) :: h) := fun j o' ho => by
  simp only [Hp.get] at ho
  split at ho
  · rename_i e; cases ho; subst e; exact ⟨h1, h2⟩
  · exact hh j o' ho
theorem LowX.nil {m : Nat} : LowX m [] := fun _ _ h => by cases h
theorem LowO.cells {m : Nat} {ro : Bool} {l : List AV} (hr : ro = false) (h : ∀ (ρ : Nat → Nat) (n : Nat), (∀ i, i < m → ρ i = i) → m ≤ n → RenVs ρ n l l) : LowO m (.cells none ro l) := by
  subst hr
  exact ⟨rfl, rfl, fun ρ n hρ hn => .base (.cells (h ρ n hρ hn))⟩
theorem LowO.ints {m : Nat} {l : List AV} (h : ∀ a ∈ l, Below 0 a) : LowO m (.cells none false l) := LowO.cells rfl fun ρ n _ _ => RenVs.closed h
theorem CallW.canonC {g : FuncId} {args : List AV} {st1 st2 : St} {ρ : Nat → Nat} (hargs : RenVs ρ st2.n args args) (hw : WeakX ρ st1 st2) {k2 k : AV → St → Prop} (h : CallW P g args st2 k2)
    (hk : ∀ v st2', k2 v st2' → Back ρ st1 st2 k v st2') : CallW P g args st1 k := fun φ w cargs n hr ha => by
  obtain ⟨r1, _⟩ := hw.ok hr
  exact (h _ w cargs n r1 (hargs.ok ha)).mono fun _ _ hc => hc.canon hr hw hk
theorem LowX.weak {m n : Nat} {H : Hp} (hH : LowX m H) : WeakX (fun i => i) ⟨H, n⟩ ⟨H, m⟩ :=
  ⟨fun id o ho => ⟨(hH id o ho).1, o, ho, (hH id o ho).2.2.2 _ _ (fun _ _ => rfl) (Nat.le_refl _)⟩, fun i j oi oj hi hj hij pi pj h1 h2 => ⟨hij, fun ⟨f, k1, k2⟩ => by
    have := (hH i pi h1).2.1
    rw [this] at k1; cases k1⟩⟩
theorem LowX.back {m n : Nat} {H H' : Hp} {k : AV → St → Prop} {v : AV} {st2' : St} (hmn : m ≤ n) (hk : k v ⟨H', n⟩) (hb : Below 0 v) (hl : LowX m H') (hn : m ≤ st2'.n) (hg : ∀ id o, Hp.get H' id = some o → st2'.h.get id = some o) : Back (fun i => i) ⟨H, n⟩ ⟨H, m⟩ k v st2' := by
  have hσ : ∀ i, i < m → (fun i => if i < m then i else st2'.n + i) i = i := fun i hi => if_pos hi
  refine ⟨⟨⟨H', n⟩, fun i => if i < m then i else st2'.n + i, hk, hb, Nat.le_refl _, ⟨fun id o ho => ?_, fun i j oi oj hi hj hij pi pj h1 h2 => ?_⟩, fun id hid => ?_⟩⟩
  · obtain ⟨h1, h2⟩ := hl id o ho
    refine ⟨Nat.lt_of_lt_of_le h1 hmn, o, ?_, h2.2.2 _ _ hσ hmn⟩
    show st2'.h.get (if id < m then id else st2'.n + id) = some o
    rw [if_pos h1]; exact hg id o ho
  · have hi1 := (hl i oi hi).1
    have hj1 := (hl j oj hj).1
    rw [if_pos hi1] at h1
    rw [if_pos hj1] at h2
    show (if i < m then i else st2'.n + i) ≠ (if j < m then j else st2'.n + j) ∧ _
    rw [if_pos hi1, if_pos hj1]
    refine ⟨hij, fun ⟨f, k1, k2⟩ => ?_⟩
    have e := (hg i oi hi).symm.trans h1
    cases e
    rw [(hl i _ hi).2.1] at k1; cases k1
  · by_cases hi : id < m
    · exact .inl ⟨if_pos hi, rfl, hi⟩
    · exact .inr (if_neg hi)
theorem CallW.low {g : FuncId} {args : List AV} {H : Hp} {m n : Nat} {k : AV → Hp → Prop} (hmn : m ≤ n) (hH : LowX m H) (hargs : RenVs (fun i => i) m args args)
    (h : CallW P g args ⟨H, m⟩ (fun v st' => ∃ H', k v H' ∧ Below 0 v ∧ LowX m H' ∧ m ≤ st'.n ∧ ∀ id o, Hp.get H' id = some o → st'.h.get id = some o)) : CallW P g args ⟨H, n⟩ (fun v st' => ∃ H', k v H' ∧ LowX m H' ∧ st' = ⟨H', n⟩) :=
  CallW.canonC hargs hH.weak h fun v st2' ⟨H', hk, hb, hl, hn, hg⟩ => LowX.back hmn ⟨H', hk, hl, rfl⟩ hb hl hn hg
theorem YieldW.low {y : Nat} {args : List AV} {H : Hp} {m n : Nat} {k : AV → Hp → Prop} (hy : y < m) (hmn : m ≤ n) (hH : LowX m H) (hargs : ∀ a ∈ args, Below 0 a)
    (h : YieldW P y args ⟨H, m⟩ (fun v st' => ∃ H', k v H' ∧ Below 0 v ∧ LowX m H' ∧ m ≤ st'.n ∧ ∀ id o, Hp.get H' id = some o → st'.h.get id = some o)) : YieldW P y args ⟨H, n⟩ (fun v st' => ∃ H', k v H' ∧ LowX m H' ∧ st' = ⟨H', n⟩) :=
  YieldW.canon (ρ := fun i => i) (st2 := ⟨H, m⟩) rfl hy hargs hH.weak h fun v st2' ⟨H', hk, hb, hl, hn, hg⟩ => LowX.back hmn ⟨H', hk, hl, rfl⟩ hb hl hn hg
theorem LowX.apart {R H : Hp} {m n : Nat} (hR : ∀ id o, R.get id = some o → m ≤ id ∧ o.own = true) (hH : LowX m H) : Apart R ⟨H, n⟩ :=
  ⟨fun id o h => (hR id o h).2, fun id o h => by
    cases hg : Hp.get H id with
    | none => rfl
    | some o' => have := (hH id o' hg).1; have := (hR id o h).1; omega, fun i j oi oj hi hj ⟨f, _, k2⟩ => by
    rw [(hH j oj hj).2.1] at k2; cases k2⟩
theorem CallW.aside {g : FuncId} {args : List AV} {R H : Hp} {m n : Nat} {k : AV → Hp → Prop} (hR : ∀ id o, R.get id = some o → m ≤ id ∧ o.own = true) (hmn : m ≤ n) (hH : LowX m H) (hargs : RenVs (fun i => i) m args args)
    (h : CallW P g args ⟨H, m⟩ (fun v st' => ∃ H', k v H' ∧ Below 0 v ∧ LowX m H' ∧ m ≤ st'.n ∧ ∀ id o, Hp.get H' id = some o → st'.h.get id = some o)) : CallW P g args ⟨R ++ H, n⟩ (fun v st' => ∃ H', k v H' ∧ LowX m H' ∧ st' = ⟨R ++ H', n⟩) :=
  (CallW.frame (R := R) (st := ⟨H, n⟩) (hH.apart hR) (CallW.low hmn hH hargs h) (fun v st' ⟨H', hk, hl, e⟩ => by subst e; exact fun id o ho => .inl (hl id o ho).2.2.1)).mono
    fun v s ⟨st', ⟨H', hk, hl, e⟩, es⟩ => by subst e; exact ⟨H', hk, hl, es⟩
theorem YieldW.aside {y : Nat} {args : List AV} {R H : Hp} {m n : Nat} {k : AV → Hp → Prop} (hy : y < m) (hR : ∀ id o, R.get id = some o → m ≤ id ∧ o.own = true) (hmn : m ≤ n) (hH : LowX m H) (hargs : ∀ a ∈ args, Below 0 a)
    (h : YieldW P y args ⟨H, m⟩ (fun v st' => ∃ H', k v H' ∧ Below 0 v ∧ LowX m H' ∧ m ≤ st'.n ∧ ∀ id o, Hp.get H' id = some o → st'.h.get id = some o)) : YieldW P y args ⟨R ++ H, n⟩ (fun v st' => ∃ H', k v H' ∧ LowX m H' ∧ st' = ⟨R ++ H', n⟩) :=
  (YieldW.frame (R := R) (st := ⟨H, n⟩) (hH.apart hR) (YieldW.low hy hmn hH hargs h) (fun v st' ⟨H', hk, hl, e⟩ => by subst e; exact fun id o ho => .inl (hl id o ho).2.2.1)).mono
    fun v s ⟨st', ⟨H', hk, hl, e⟩, es⟩ => by subst e; exact ⟨H', hk, hl, es⟩
end
end Go.Fz
