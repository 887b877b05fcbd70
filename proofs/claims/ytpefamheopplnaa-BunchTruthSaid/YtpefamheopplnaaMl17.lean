/- Own work of the verifier of watercress: FzC11, FzC12, FzC13, FzC14, FzC15, FzC16, FzD1, FzG1, FzG2. -/
import Derived.Test.YtpefamheopplnaaMl16
import Derived.Test.YtpefamheopplnaaMl9
set_option linter.unusedVariables false
set_option linter.unusedSimpArgs false
namespace Go.Fz
variable {P : Program} {T : Ti}
theorem Hp.filter_get {p : Nat → Bool} : ∀ {h : Hp} {id : Nat} {o : AObj}, h.get id = some o → p id = true → Hp.get (h.filter fun x => p x.1) id = some o
  | [], id, o, h, _ => by simp [Hp.get] at h
  | (i, x) :: r, id, o, h, hp => by
    simp only [Hp.get] at h
    simp only [List.filter_cons]
    split at h
    · rename_i hi; subst hi; cases h
      rw [if_pos hp]; simp [Hp.get]
    · rename_i hi
      have := Hp.filter_get h hp
      split
      · simp only [Hp.get]; rw [if_neg hi]; exact this
      · exact this
def NewV (r : Nat → AV) (id : Nat) (v : AV) : Prop := ∀ (φa φb : Fi) (u : Value) (k : Nat), φb.f k = φa.f id → k < φb.n → φb.z = φa.z → VR φa v u → VR φb (r k) u
theorem NewV.closed {a : AV} {id : Nat} (h : Below 0 a) : NewV (fun _ => a) id a := fun φa φb u k _ _ h3 hv => by
  have h1 := h _ _ hv
  exact VR.mono (φ := ⟨φa.f, 0, φa.z⟩) ⟨Nat.zero_le _, fun id hid => absurd hid (Nat.not_lt_zero id), fun b c hb => by rw [h3]; exact hb⟩ h1
theorem NewV.mp {id : Nat} : NewV (fun k => .mp k) id (.mp id) := fun φa φb u k h1 h2 h3 hv => by
  obtain ⟨rfl, _⟩ := hv.mp_inv
  rw [← h1]
  exact VR.mp k h2
theorem NewV.eqv {r : Nat → AV} {id : Nat} {a b : AV} (h : NewV r id b) (he : Eqv a b) : NewV r id a := fun φa φb u k h1 h2 h3 hv => h φa φb u k h1 h2 h3 (he _ _ hv)
inductive NewVs : (Nat → List AV) → Nat → List AV → Prop
  | nil {id : Nat} : NewVs (fun _ => []) id []
  | cons {r : Nat → AV} {rs : Nat → List AV} {id : Nat} {v : AV} {vs : List AV} (h : NewV r id v) (k : NewVs rs id vs) : NewVs (fun n => r n :: rs n) id (v :: vs)
theorem NewVs.ok {rs : Nat → List AV} {id : Nat} {vs : List AV} (h : NewVs rs id vs) : ∀ (φa φb : Fi) (us : List Value) (k : Nat), φb.f k = φa.f id → k < φb.n → φb.z = φa.z → VRL φa vs us → VRL φb (rs k) us := by
  induction h with
  | nil => intro φa φb us k _ _ _ hv; cases hv; exact .nil
  | cons h _ ih => intro φa φb us k h1 h2 h3 hv; cases hv with | cons a b => exact .cons (h φa φb _ k h1 h2 h3 a) (ih φa φb _ k h1 h2 h3 b)
theorem NewV.agg {rs : Nat → List AV} {id : Nat} {vs : List AV} (h : NewVs rs id vs) : NewV (fun k => .agg (rs k)) id (.agg vs) := fun φa φb u k h1 h2 h3 hv => by
  obtain ⟨us, rfl, hu⟩ := hv.agg_inv
  exact .agg (h.ok φa φb us k h1 h2 h3 hu)
theorem NewV.tup {rs : Nat → List AV} {id : Nat} {vs : List AV} (h : NewVs rs id vs) : NewV (fun k => .tup (rs k)) id (.tup vs) := fun φa φb u k h1 h2 h3 hv => by
  cases hv with
  | tup hu => exact .tup (h.ok φa φb _ k h1 h2 h3 hu)
structure Fresh (P : Program) (g : FuncId) (args : List AV) (r : Nat → AV) (es : List (AV × AV × Nat)) (clock : Nat) : Prop where
  ent : Enters P g
  call : ∀ st, CallW P g args st (fun v st' => v = r st.n ∧ st' = st.push (.map es clock))
theorem fresh_of_call {g : FuncId} {args : List AV} {r : Nat → AV} {es : List (AV × AV × Nat)} {clock : Nat} (m : Nat) (hent : Enters P g) (ha : AllB 0 args) (hes : ∀ x ∈ es, Below 0 x.1 ∧ Below 0 x.2.1)
    (h : CallW P g args ⟨[], 0⟩ (fun v st' => ∃ id, st'.h.get id = some (.map es clock) ∧ freeB st'.h (fun i => !Nat.beq i id) = true ∧ NewV r id (frz st'.h (fun i => !Nat.beq i id) m v))) : Fresh P g args r es clock := by
  refine ⟨hent, fun st φ w cargs n hrel hargs => ?_⟩
  have hrel0 : Rel ⟨φ.f, 0, φ.z⟩ ⟨[], 0⟩ w := ⟨rfl, fun _ _ h => by simp [Hp.get] at h, fun _ _ h => by simp [Hp.get] at h, fun _ _ h => by simp [Hp.get] at h, fun _ _ _ _ h => by simp [Hp.get] at h, fun _ _ _ h => by simp [Hp.get] at h,
    fun b c hb => ⟨(hrel.froz b c hb).1, (hrel.froz b c hb).2.1, fun _ _ h => by simp [Hp.get] at h⟩⟩
  refine (h ⟨φ.f, 0, φ.z⟩ w cargs n hrel0 (Below.list ha.ok hargs)).mono fun e w1 hp => ?_
  obtain ⟨v, cv, st1, φ1, rfl, ⟨id, hid, hfree, hv⟩, hvr, hext, hrel1, hfr⟩ := hp
  obtain ⟨hrel2, hfr2⟩ := hrel1.freeze hfree
  have hvr2 := frz_ok (D := fun i => !Nat.beq i id) hrel1 m hvr
  have hfr3 := hfr.trans hfr2
  have hnone : ∀ b, ¬ Owns ⟨φ.f, 0, φ.z⟩ ⟨[], 0⟩ b := fun b ⟨id, o, h, _⟩ => by simp [Hp.get] at h
  have hzs : ∀ b c, zOf φ1 st1.h (fun i => !Nat.beq i id) w1 b = some c → φ.z b = some c ∨ w.heap.size ≤ b := fun b c hb => (hfr3.zs b c hb).elim .inl fun h => h.elim (fun ho => absurd ho (hnone b)) .inr
  have hsame : ∀ k, k < w.heap.size → w1.heap[k]? = w.heap[k]? := fun k hk => hfr3.block k hk (hnone k)
  have hnew : w.heap.size ≤ (φ1.f id).b := (hfr.own (φ1.f id).b ⟨id, _, hid, rfl, rfl⟩).elim (fun ho => absurd ho (hnone _)) fun h => h
  have hkeep : (st1.keep fun i => !(fun i => !Nat.beq i id) i).h.get id = some (.map es clock) := Hp.filter_get (p := fun i => !(fun i => !Nat.beq i id) i) hid (by simp [Nat.beq_refl])
  obtain ⟨φ', hφ'⟩ : ∃ φ' : Fi, φ' = ⟨fun j => if j < φ.n then φ.f j else φ1.f id, φ.n + 1, zOf φ1 st1.h (fun i => !Nat.beq i id) w1⟩ := ⟨_, rfl⟩
  have hf1 : ∀ j, j < φ.n → φ'.f j = φ.f j := fun j hj => by rw [hφ']; exact if_pos hj
  have hf2 : φ'.f st.n = φ1.f id := by rw [hφ', ← hrel.n]; exact if_neg (Nat.lt_irrefl _)
  have hz : φ'.z = zOf φ1 st1.h (fun i => !Nat.beq i id) w1 := by rw [hφ']
  have hn : φ'.n = st.n + 1 := by rw [hφ', ← hrel.n]
  have hext3 : Ext φ φ' := ⟨by rw [hn, hrel.n]; omega, hf1, fun b c hb => by rw [hz]; exact zOf_old (hext.z b c hb)⟩
  have hold : ∀ j o, st.h.get j = some o → φ'.f j = φ.f j := fun j o ho => hf1 j (by rw [hrel.n]; exact hrel.lt j o ho)
  refine ⟨r st.n, cv, st.push (.map es clock), φ', rfl, ⟨rfl, rfl⟩, hv (φ1.froz st1.h (fun i => !Nat.beq i id) w1) φ' cv st.n hf2 (by rw [hn]; omega) hz hvr2, hext3, ?_, ?_⟩
  · refine ⟨hn, fun j o hj => ?_, fun j o hj => ?_, fun j o hj => ?_, fun i j oi oj hi hj hij ho hb => ?_, fun j o f hj hf => ?_, fun b c hb => ?_⟩
    · rw [St.get_push] at hj
      split at hj
      · show j < st.n + 1; omega
      · show j < st.n + 1; have := hrel.lt j o hj; omega
    · rw [St.get_push] at hj
      split at hj
      · rename_i e; subst e; rw [hf2]; exact hrel1.blk id _ hid
      · rw [hold j o hj]; have := hrel.blk j o hj; have := hfr3.size; omega
    · rw [St.get_push] at hj
      split at hj
      · rename_i e; subst e; cases hj
        obtain ⟨ces, h1, h2, h3⟩ := hrel1.obj id _ hid
        refine ⟨ces, by rw [hf2]; exact h1, h2, fun i x hx => ?_⟩
        obtain ⟨e, k1, k2, k3, k4⟩ := h3 i x hx
        obtain ⟨b1, b2⟩ := hes x (List.mem_of_getElem? hx)
        have hm : Ext ⟨φ1.f, 0, φ1.z⟩ φ' := ⟨Nat.zero_le _, fun id hid => absurd hid (Nat.not_lt_zero id), fun b c hb => by rw [hz]; exact zOf_old hb⟩
        exact ⟨e, k1, VR.mono hm (b1 _ _ k2), VR.mono hm (b2 _ _ k3), k4⟩
      · exact (hrel.obj j o hj).same hext3 (by rw [hrel.n]; exact hrel.lt j o hj) (hsame _ (hrel.blk j o hj))
    · rw [St.get_push] at hi hj
      split at hi
      · rename_i e; subst e
        split at hj
        · rename_i e2; exact absurd e2 hij
        · rw [hf2, hold j oj hj] at hb
          have := hrel.blk j oj hj; omega
      · split at hj
        · rename_i e; subst e
          rw [hf2, hold i oi hi] at hb
          have := hrel.blk i oi hi; omega
        · rw [hold i oi hi, hold j oj hj] at hb ⊢
          exact hrel.sep i j oi oj hi hj hij ho hb
    · rw [St.get_push] at hj
      split at hj
      · cases hj; cases hf
      · have := hrel.fam j o f hj hf; show f < st.n + 1; omega
    · rw [hz] at hb
      obtain ⟨h1, h2, h3⟩ := hrel2.froz b c hb
      refine ⟨h1, h2, fun j o hj hown hbb => ?_⟩
      rw [St.get_push] at hj
      split at hj
      · rename_i e; subst e; cases hj
        rw [hf2] at hbb
        exact h3 id _ hkeep rfl hbb
      · rw [hold j o hj] at hbb
        rcases hzs b c hb with h4 | h4
        · exact (hrel.froz b c h4).2.2 j o hj hown hbb
        · have := hrel.blk j o hj; omega
  · refine ⟨hfr3.os, hfr3.tape, hfr3.output, hfr3.size, fun k hk _ => hsame k hk, fun k ⟨j, o, hj, ho, hb⟩ => ?_, fun b c hb => (hzs b c (by rw [← hz]; exact hb)).elim .inl fun h => .inr (.inr h)⟩
    rw [St.get_push] at hj
    split at hj
    · rename_i e; subst e
      rw [hf2] at hb
      exact .inr (by omega)
    · exact .inl ⟨j, o, hj, ho, by rw [← hb, hold j o hj]⟩
theorem fresh_of_body (hT : TOk P T) {g : FuncId} {fn : Func} {c : Code} {args : List AV} {r : Nat → AV} {es : List (AV × AV × Nat)} {clock : Nat} (m : Nat) (hf : P.funcs[g]? = some fn) (hent : Enters P g) (hb : fn.body = some c) (ha : AllB 0 args) (hes : ∀ x ∈ es, Below 0 x.1 ∧ Below 0 x.2.1)
    (h : SW P none c (retQ T fn (fun v st' => ∃ id, st'.h.get id = some (.map es clock) ∧ freeB st'.h (fun i => !Nat.beq i id) = true ∧ NewV r id (frz st'.h (fun i => !Nat.beq i id) m v))) ⟨Ts.of args fn.ntmps, []⟩ ⟨[], 0⟩) : Fresh P g args r es clock :=
  fresh_of_call m hent ha hes (callW_of_body hT hf hb h)
end Go.Fz
namespace Go.Fz
open Go.Proofs
set_option maxRecDepth 100000
def workC (d : DayD) (l : List (Nat → Int)) (k : Nat) : List AV := [iV d.hand, iV d.flat, womsV d, lotsV d, cntsV d, outsI d l, .mp k]
def workM (d : DayD) (l : List (Nat → Int)) (k : Nat) : AV := .agg (workC d l k)
theorem freeB_none {h : Hp} {D : Nat → Bool} (hf : ∀ x ∈ h, x.2.fam = none) : freeB h D = true := List.all_eq_true.2 fun x hx => by
  simp [hf x hx]
theorem frz_outs {d : DayD} {f : Nat → Int} {l : List (Nat → Int)} {h : Hp} {q : Nat} (hq : 55 ≤ q) (hg : h.get q = some (.cells none false (outA d (f :: l)))) :
    NewV (workM d (f :: l)) 2 (frz h (fun i => !Nat.beq i 2) 3 (.agg [iV d.hand, iV d.flat, womsV d, lotsV d, cntsV d, .sl q 0 (l.length + 1) 8 false, .mp 2])) := by
  have hlen : (outA d (f :: l)).length = (l.length + 1) * 8 := outA_length d _
  have hD : (fun i => !Nat.beq i 2) q = true := by
    have : Nat.beq q 2 = false := by rw [← Bool.not_eq_true]; intro e; have := Nat.eq_of_beq_eq_true e; omega
    simp only [this]; rfl
  have h1 : frz h (fun i => !Nat.beq i 2) 2 (.sl q 0 (l.length + 1) 8 false) = .isl (l.length + 1) 8 false (fun i k => frz h (fun i => !Nat.beq i 2) 1 ((outA d (f :: l)).getD (0 + i * 8 + k) .any)) := by
    simp only [frz]
    rw [if_pos hD, hg]
    simp only
    rw [if_pos (by omega)]
  have h2 : Eqv (frz h (fun i => !Nat.beq i 2) 2 (.sl q 0 (l.length + 1) 8 false)) (outsI d (f :: l)) := by
    rw [h1]
    refine Eqv.isl rfl fun i k hi hk => Eqv.of ?_
    have h3 := flatG_get 8 (outG d (f :: l)) (l.length + 1) i k hi hk
    rw [Nat.zero_add, List.getD_eq_getElem?_getD]
    show frz h _ 1 ((flatG 8 (outG d (f :: l)) (l.length + 1))[i * 8 + k]?.getD .any) = _
    rw [h3]
    show frz h _ 1 (outG d (f :: l) i k) = _
    unfold outG outcC
    split <;> rfl
  exact NewV.agg (rs := workC d (f :: l)) (.cons (.closed Below.lit) (.cons (.closed Below.lit) (.cons (.closed (womsV_below d)) (.cons (.closed (lotsV_below d)) (.cons (.closed (cntsV_below d)) (.cons ((NewV.closed (outsI_below d _)).eqv h2) (.cons .mp .nil)))))))
set_option maxHeartbeats 8000000 in
theorem start_ok (d : DayD) (hc : d.check = 0) : Fresh Try.prog 76 [dayV d] (workM d d.seen.outs) (mapE mkV d.seen.E) d.seen.cl := by
  obtain ⟨O, hO⟩ : ∃ O : Ar, O = std := ⟨_, rfl⟩
  have hch := choices_start d hc
  refine fresh_of_body tok 3 Try.func76 en76 rfl ⟨dayV_below d, trivial⟩ (mapE_closed _) ?_
  refine SW.seqRun tok hO (by cbv <;> rfl) (by trivial) ?_
  refine SW.seq (SW.runN tok hO 1 (by cbv <;> rfl) (by trivial) ?_)
  refine OpsW.mkMap (by rfl) ?_
  refine OpsW.run tok hO (by cbv <;> rfl) (by trivial) ?_
  refine SW.seq ?_
  refine SW.seqRun tok hO (by cbv <;> rfl) (by trivial) ?_
  refine OpsW.callS en105 (choices83 d _ _) (by cbv <;> rfl) fun v st' hk => ?_
  obtain ⟨rfl, rfl⟩ := hk
  refine OpsW.run tok hO (by cbv <;> rfl) (by trivial) ?_
  refine SW.block ?_
  refine SW.pre (f2 := ⟨stTs, []⟩) (st2 := ⟨[(4, .cells none false (dayC d)), (3, .cells none false (stW d nl3)), (2, .map [] 0), (1, .cells none false stZ), (0, .cells none false (dayC d))], 5⟩) ?_ ?_
  · exact Weak.by rfl rfl (fun _ h => nomatch h) (Nat.le_refl _) (Nat.le_refl _) ⟨⟨rfl, .inl rfl⟩, ⟨rfl, .inl rfl⟩, ⟨rfl, .inl rfl⟩, ⟨rfl, .inl rfl⟩, trivial⟩ ⟨⟨rfl, by show _ < 5; omega, .inl rfl⟩, ⟨rfl, by show _ < 5; omega, .inl rfl⟩, ⟨rfl, by show _ < 5; omega, .inl rfl⟩, ⟨rfl, by show _ < 5; omega, .inl rfl⟩, ⟨rfl, by show _ < 5; omega, .inl rfl⟩, trivial⟩
  refine SW.rangeFunc (gf := 122) (first := []) (caps := [.ptr 4 0]) (by rfl) en122 ?_
  refine CallW.mono (show CallW Try.prog 122 [.yld 6, .ptr 4 0] ⟨stH d nl3 [] 0 [], 7⟩ _ from hch) fun v st' hk => ?_
  obtain ⟨h, n, rfl, hn, q, rfl, hq, hqn⟩ := hk
  refine ⟨stR, rfl, ?_⟩
  refine And.intro (fun h => by simp [stR] at h) ?_
  show SW Try.prog none _ _ ⟨stTs, [5]⟩ ⟨(6, .loop { stR with state := .exhausted }) :: (5, .dfr) :: (4, .cells none false (dayC d)) :: (3, .cells none false (stW d (outsV q d.seen.outs.length))) :: (2, .map (mapE mkV d.seen.E) d.seen.cl) :: (1, .cells none false stZ) :: (0, .cells none false (dayC d)) :: outsH d q d.seen.outs, n⟩
  generalize ({ stR with state := .exhausted } : ALoop) = LE
  generalize mapE mkV d.seen.E = ME
  generalize d.seen.cl = cl
  generalize d.seen.outs = outs at hqn ⊢
  cases outs with
  | nil =>
    refine SW.seqRun tok hO (by cbv <;> rfl) (by trivial) ?_
    refine SW.ret ⟨_, _, rfl, rfl, 2, rfl, by rfl, ?_⟩
    exact NewV.agg (rs := workC d []) (.cons (.closed Below.lit) (.cons (.closed Below.lit) (.cons (.closed (womsV_below d)) (.cons (.closed (lotsV_below d)) (.cons (.closed (cntsV_below d)) (.cons (.closed Below.lit) (.cons .mp .nil)))))))
  | cons f l =>
    obtain ⟨L, hL⟩ : ∃ n, l.length = n := ⟨_, rfl⟩
    show SW Try.prog none _ _ ⟨stTs, [5]⟩ ⟨(6, .loop LE) :: (5, .dfr) :: (4, .cells none false (dayC d)) :: (3, .cells none false (stW d (.sl q 0 (l.length + 1) 8 false))) :: (2, .map ME cl) :: (1, .cells none false stZ) :: (0, .cells none false (dayC d)) :: [(q, .cells none false (outA d (f :: l)))], n⟩
    rw [hL]
    obtain ⟨G, hG⟩ : ∃ G, outA d (f :: l) = G := ⟨_, rfl⟩
    rw [hG]
    refine SW.seqRun tok hO (by cbv <;> rfl) (by trivial) ?_
    refine SW.ret ⟨_, _, rfl, rfl, 2, rfl, freeB_none fun x hx => ?_, ?_⟩
    · simp only [Hp.set, List.mem_cons, List.not_mem_nil, or_false] at hx
      simp at hx
      rcases hx with rfl | rfl | rfl | rfl | rfl | rfl | rfl | rfl <;> rfl
    subst hG
    subst hL
    refine frz_outs (q := q) hq ?_
    have e6 : ¬ 6 = q := by omega
    have e5 : ¬ 5 = q := by omega
    have e4 : ¬ 4 = q := by omega
    have e3 : ¬ 3 = q := by omega
    have e2 : ¬ 2 = q := by omega
    have e1 : ¬ 1 = q := by omega
    have e0 : ¬ 0 = q := by omega
    simp [Hp.set, Hp.get, e0, e1, e2, e3, e4, e5, e6]
end Go.Fz
namespace Go.Fz
open Go.Proofs
set_option maxRecDepth 100000
set_option maxHeartbeats 8000000 in
theorem open_ok (d : DayD) (hs : d.small) (hc : d.check = 0) (f : Nat → Int) (l : List (Nat → Int)) (ho : d.seen.outs = f :: l) :
    Fresh Try.prog 57 [dayV d, .lit (.bool true)] (fun k => .tup [workM d (f :: l) k, iV 0]) (mapE mkV d.seen.E) d.seen.cl := by
  obtain ⟨O, hO⟩ : ∃ O : Ar, O = std := ⟨_, rfl⟩
  have e1 := checkDay_ok d hs
  have e2 := start_ok d hc
  rw [hc] at e1
  refine fresh_of_body tok 3 Try.func57 en57 rfl ⟨dayV_below d, Below.lit, trivial⟩ (mapE_closed _) ?_
  generalize mapE mkV d.seen.E = ME at e2 ⊢
  generalize d.seen.cl = cl at e2 ⊢
  rw [ho] at e2
  have hWW : workM d (f :: l) = fun k => .agg [iV d.hand, iV d.flat, womsV d, lotsV d, cntsV d, .isl (l.length + 1) 8 false (outG d (f :: l)), .mp k] := rfl
  have hbel := outsI_below d (f :: l)
  rw [show outsI d (f :: l) = .isl (l.length + 1) 8 false (outG d (f :: l)) from rfl] at hbel
  rw [hWW] at e2 ⊢
  obtain ⟨L, hL⟩ : ∃ L, l.length = L := ⟨_, rfl⟩
  rw [hL] at e2 hbel ⊢
  generalize outG d (f :: l) = G at e2 hbel ⊢
  refine SW.seqRun tok hO (by cbv <;> rfl) (by trivial) ?_
  refine SW.seq ?_
  refine SW.seqRun tok hO (by cbv <;> rfl) (by trivial) ?_
  refine OpsW.callP e1 (by cbv <;> rfl) ?_
  refine OpsW.run tok hO (by cbv <;> rfl) (by trivial) ?_
  refine SW.seqRun tok hO (by cbv <;> rfl) (by trivial) ?_
  refine SW.condS (by cbv <;> rfl) (fun h1 => ?_) (fun h1 => SW.skip ?_)
  · exfalso
    subst hO; simp [std] at h1
  refine SW.seq ?_
  refine SW.seqRun tok hO (by cbv <;> rfl) (by trivial) ?_
  refine SW.cond (t := false) (by cbv <;> rfl) (SW.skip ?_)
  refine SW.seqRun tok hO (by cbv <;> rfl) (by trivial) ?_
  refine OpsW.callS e2.ent (e2.call _) (by cbv <;> rfl) fun v st' hk => ?_
  obtain ⟨rfl, rfl⟩ := hk
  refine OpsW.run tok hO (by cbv <;> rfl) (by trivial) ?_
  refine SW.seq ?_
  refine SW.seqRun tok hO (by cbv <;> rfl) (by trivial) ?_
  refine SW.condS (by cbv <;> rfl) (fun h2 => ?_) (fun h2 => SW.skip ?_)
  · exfalso
    subst hO; simp [std] at h2
    omega
  refine SW.seqRun tok hO (by cbv <;> rfl) (by trivial) ?_
  refine SW.ret ⟨_, _, rfl, rfl, 2, rfl, by rfl, ?_⟩
  exact NewV.tup (rs := fun k => [.agg [iV d.hand, iV d.flat, womsV d, lotsV d, cntsV d, .isl (L + 1) 8 false G, .mp k], iV 0])
    (.cons (NewV.agg (rs := fun k => [iV d.hand, iV d.flat, womsV d, lotsV d, cntsV d, .isl (L + 1) 8 false G, .mp k]) (.cons (.closed Below.lit) (.cons (.closed Below.lit) (.cons (.closed (womsV_below d)) (.cons (.closed (lotsV_below d)) (.cons (.closed (cntsV_below d)) (.cons (.closed hbel) (.cons .mp .nil)))))))) (.cons (.closed Below.lit) .nil))
set_option maxHeartbeats 8000000 in
theorem open_none (d : DayD) (hs : d.small) (hc : d.check = 0) (ho : d.seen.outs = []) : Pure Try.prog 57 [dayV d, .lit (.bool true)] (.tup [.agg stZ, iV 11]) := by
  obtain ⟨O, hO⟩ : ∃ O : Ar, O = std := ⟨_, rfl⟩
  have e1 := checkDay_ok d hs
  have e2 := start_ok d hc
  rw [hc] at e1
  refine pure_of_body tok 3 Try.func57 en57 rfl ⟨dayV_below d, Below.lit, trivial⟩ (Below.tup (AllB.ok ⟨Below.agg (AllB.ok ⟨Below.lit, Below.lit, Below.lit, Below.lit, Below.lit, Below.lit, Below.lit, trivial⟩), Below.lit, trivial⟩)) ?_
  generalize mapE mkV d.seen.E = ME at e2
  generalize d.seen.cl = cl at e2
  rw [ho] at e2
  refine SW.seqRun tok hO (by cbv <;> rfl) (by trivial) ?_
  refine SW.seq ?_
  refine SW.seqRun tok hO (by cbv <;> rfl) (by trivial) ?_
  refine OpsW.callP e1 (by cbv <;> rfl) ?_
  refine OpsW.run tok hO (by cbv <;> rfl) (by trivial) ?_
  refine SW.seqRun tok hO (by cbv <;> rfl) (by trivial) ?_
  refine SW.condS (by cbv <;> rfl) (fun h1 => ?_) (fun h1 => SW.skip ?_)
  · exfalso
    subst hO; simp [std] at h1
  refine SW.seq ?_
  refine SW.seqRun tok hO (by cbv <;> rfl) (by trivial) ?_
  refine SW.cond (t := false) (by cbv <;> rfl) (SW.skip ?_)
  refine SW.seqRun tok hO (by cbv <;> rfl) (by trivial) ?_
  refine OpsW.callS e2.ent (e2.call _) (by cbv <;> rfl) fun v st' hk => ?_
  obtain ⟨rfl, rfl⟩ := hk
  refine OpsW.run tok hO (by cbv <;> rfl) (by trivial) ?_
  refine SW.seq ?_
  refine SW.seqRun tok hO (by cbv <;> rfl) (by trivial) ?_
  refine SW.condS (by cbv <;> rfl) (fun h2 => ?_) (fun h2 => ?_)
  · refine SW.seqRun tok hO (by cbv <;> rfl) (by trivial) ?_
    exact SW.ret ⟨_, _, rfl, rfl, Eqv.of rfl⟩
  · exfalso
    subst hO; simp [std] at h2
end Go.Fz
namespace Go.Fz
open Go.Proofs
set_option maxRecDepth 100000
section
variable {P : Program} {T : Ti}
def mapDE (T : Ti) (t : TypeId) : Option (TypeId × TypeId) := match T t with
  | some i => match i.desc with
    | .map k e => some (k, e)
    | _ => none
  | none => none
theorem mapDE_ok (hT : TOk P T) {t k e : TypeId} (h : mapDE T t = some (k, e)) : P.underlying t = some (.map k e) := by
  unfold mapDE at h
  split at h
  · rename_i i hi
    split at h
    · rename_i k' e' hd
      cases h
      rw [← hd]; exact (hT t i hi).und
    · cases h
  · cases h
def FalseZ (P : Program) (e : TypeId) : Prop := ∀ w : World, (zeroValue e).run P w = .ok (.bool false) w
theorem mapLook_ok {φ : Fi} {st : St} {w : World} {t kt e : TypeId} {β : Type} [DecidableEq β] {V : β → AV} (K : Maps.Keyed P kt) (F : KeyF P kt V) {b : β} {u : Value} {id clock : Nat} {E : List (β × Nat)} (hr : Rel φ st w) (ha : VR φ (.mp id) u)
    (hu : P.underlying t = some (.map kt e)) (hz : FalseZ P e) (hm : st.h.get id = some (.map (mapE V E) clock)) :
    (Instr.lookup t u (F.den b) false).run P w = .ok (.bool (decide (b ∈ E.map (·.1)))) w := by
  obtain ⟨rfl, hid⟩ := ha.mp_inv
  obtain ⟨lx, hlx⟩ := F.key b
  obtain ⟨ces, hb, hsz, hes⟩ := hr.obj id _ hm
  have hlen : (mapE V E).length = E.length := by simp [mapE]
  rw [hlen] at hsz
  have hent : ∀ (i : Nat) (p : β × Nat), E[i]? = some p → ∃ e, ces[i]? = some e ∧ e.key = F.den p.1 ∧ e.val = .bool true ∧ e.born = p.2 := fun i p hp => by
    obtain ⟨e, h1, h2, h3, h4⟩ := hes i (V p.1, .lit (.bool true), p.2) (by simp [mapE, hp])
    exact ⟨e, h1, F.val φ p.1 _ h2, h3.lit_inv, h4⟩
  have hall : ∀ e ∈ ces.toList, ∃ p, p ∈ E ∧ e.key = F.den p.1 := fun e he => by
    obtain ⟨i, hi, he2⟩ := List.getElem_of_mem he
    have hil : i < E.length := by rw [← hsz]; simpa using hi
    obtain ⟨e', h1, h2, _⟩ := hent i E[i] (List.getElem?_eq_getElem hil)
    have : e' = e := by
      rw [← Array.getElem?_toList, List.getElem?_eq_getElem hi, he2] at h1
      exact (Option.some.inj h1).symm
    subst this
    exact ⟨E[i], List.getElem_mem hil, h2⟩
  have hfind := K.find w hlx ces.toList fun e he => by
    obtain ⟨p, _, h2⟩ := hall e he
    rw [h2]; exact F.key p.1
  have hcheck := K.check w true hlx
  rcases hfind with ⟨hrun, hne⟩ | ⟨j, e0, hrun, hj, hje⟩
  · have hnot : b ∉ E.map (·.1) := fun hin => by
      obtain ⟨p, hp, hpb⟩ := List.mem_map.1 hin
      obtain ⟨i, hi, rfl⟩ := List.getElem_of_mem hp
      obtain ⟨e, h1, h2, _⟩ := hent i E[i] (List.getElem?_eq_getElem hi)
      rw [← Array.getElem?_toList] at h1
      exact hne e (List.mem_of_getElem? h1) (by rw [h2, hpb])
    rw [decide_eq_false hnot]
    simp [Instr.lookup, run_underlying hu, MapKept.run_getObj_map hb, K.check w _ hlx, hrun, hz w, Result.andThen]
  · have hjl : j < E.length := by
      have : j < ces.toList.length := (List.getElem?_eq_some_iff.1 hj).1
      rw [← hsz]; simpa using this
    have hjc : ces[j]? = some e0 := by rw [← Array.getElem?_toList]; exact hj
    obtain ⟨e', k1, k2, k3, k4⟩ := hent j E[j] (List.getElem?_eq_getElem hjl)
    have hee : e' = e0 := by rw [hjc] at k1; exact (Option.some.inj k1).symm
    subst hee
    have hin : b ∈ E.map (·.1) := List.mem_map.2 ⟨E[j], List.getElem_mem hjl, F.inj _ _ (by rw [← k2, hje])⟩
    rw [decide_eq_true hin]
    simp [Instr.lookup, run_underlying hu, MapKept.run_getObj_map hb, K.check w _ hlx, hrun, k3, Result.andThen]
def lookAt (ops : Array Oper) (i : Nat) (f : Fm) : Option (TypeId × AV × AV) := match ops[i]? with
  | none => none
  | some o => match wantA ops f.ts o with
    | some true => match o.op with
      | .lookup t m k false => some (t, Operand.av f.ts m, Operand.av f.ts k)
      | _ => none
    | _ => none
theorem OpsW.mapLook (hT : TOk P T) {rd : Option Nat} {ops : Array Oper} {L : Fm → St → Prop} {f : Fm} {st : St} {i : Nat} {l : List Nat} {t kt e : TypeId} {β : Type} [DecidableEq β] {V : β → AV} (K : Maps.Keyed P kt) (F : KeyF P kt V) (b : β) {kv : AV} {id clock : Nat} {E : List (β × Nat)}
    (hx : lookAt ops i f = some (t, .mp id, kv)) (hkv : Eqv kv (V b)) (hd : mapDE T t = some (kt, e)) (hz : FalseZ P e) (hm : st.h.get id = some (.map (mapE V E) clock))
    (h : OpsW P rd ops l L (putAt ops i f (.sb (decide (b ∈ E.map (·.1))))) st) : OpsW P rd ops (i :: l) L f st := by
  unfold lookAt at hx
  split at hx
  · cases hx
  · rename_i o ho
    split at hx
    · rename_i hw
      split at hx
      · rename_i t' m k hop
        simp only [Option.some.injEq, Prod.mk.injEq] at hx
        obtain ⟨rfl, e2, e3⟩ := hx
        have hput : ∀ v, putAt ops i f v = f.put o.dst v := fun v => by simp [putAt, ho]
        rw [hput] at h
        refine OpsW.value ho hw (fun c hc => by rw [hop] at hc; cases hc) (fun φ w a h2 h3 => ?_) h
        have hρ := opR_of h3.ts
        have a1 := hρ m
        have a2 := hρ k
        rw [e2] at a1; rw [e3] at a2
        have a3 := F.val φ b _ (hkv _ _ a2)
        have hrun := mapLook_ok (w := w) K F (b := b) h2 a1 (mapDE_ok hT hd) hz hm
        rw [← a3] at hrun
        exact ⟨φ, w, _, .inl (by simp [execOp, hop, hrun, Result.andThen]), .sb _, h2, Ext.refl _, Fr.refl _ _ _⟩
      · cases hx
    · cases hx
end
theorem keyed4 : Maps.Keyed Try.prog 4 := Maps.bool_keyed (by kernel_rfl)
def boolKey : KeyF Try.prog 4 AV.sb where
  den b := .bool b
  val φ b u h := h.sb_inv
  key b := by
    cases b <;> exact Option.isSome_iff_exists.1 (by kernel_rfl)
  inj b c h := by simpa using h
theorem falseZ4 : FalseZ Try.prog 4 := fun w => by
  have h : (Try.prog.info? 4).bind (fun t => t.zero) = some (.bool false) := by kernel_rfl
  obtain ⟨ti, h1, h2⟩ := Option.bind_eq_some_iff.1 h
  simp [zeroValue, typeInfo, Sem.run_bind, program, Sem.run, Result.andThen, h1, h2]
end Go.Fz
namespace Go.Fz
open Go.Proofs
set_option maxRecDepth 100000
theorem PickE.effL {P : Program} {T : Ti} (hT : TOk P T) {O : Ar} (hO : O = std) {rd : Option Nat} {ops : Array Oper} {M : List Nat} {K : Fm → St → Prop} {fuel : Nat} {pend pend' : List (Nat × AV)} {listed : Array Bool} {f f' : Fm} {st st' : St} {j : Nat} {cs : List Cond}
    (hd : dropP M j pend = pend') (hR : runO O T ops [j] [] f st = .done cs f' st') (hc : allC cs) (hk : AllP (fun p => LV T ops st'.h f' p.1 p.2) pend') (h : AnyE P T ops M rd K fuel pend' (listed.setIfInBounds j true) f' st') : PickE P T ops M rd K fuel pend listed f st j := by
  obtain ⟨o', v, ho', rfl⟩ := runO_one hR
  exact ⟨o', pend', ho', hd, OpsW.run hT hO (R := .done cs (f.put o'.dst v) st') hR hc ⟨⟨v, rfl⟩, (show PendOk T ops pend' (f.put o'.dst v) st'.h from fun p hp => hk.ok p hp), h⟩⟩
def workA (d : DayD) (L : Nat) (G : Nat → Nat → AV) : List AV := [iV d.hand, iV d.flat, womsV d, lotsV d, cntsV d, .isl L 8 false G, .any]
def tkS (d : DayD) (L : Nat) (G : Nat → Nat → AV) : St := ⟨[(1, .cells none false (workA d L G)), (0, .cells none false (dayC d))], 2⟩
def midK (len : Nat) (l : List (Nat × AV)) (S : St) (e : Exit) (fm : Fm) (st : St) : Prop := e = .normal ∧ ∃ g, fm = ⟨⟨len, g⟩, []⟩ ∧ AllP (fun p => g p.1 = p.2) l ∧ st = S
set_option maxHeartbeats 8000000 in
theorem thicker_a (d : DayD) (w n : Int) (hn : 0 ≤ n ∧ n ≤ 60) (L : Nat) (G : Nat → Nat → AV) (ME : List (AV × AV × Nat)) (cl : Nat) (hG : Below 0 (.isl L 8 false G))
    (e1 : Pure Try.prog 73 [dayV d, iV w] (.lit (.bool true)))
    (e2 : Fresh Try.prog 57 [dayV d, .lit (.bool true)] (fun k => .tup [.agg [iV d.hand, iV d.flat, womsV d, lotsV d, cntsV d, .isl L 8 false G, .mp k], iV 0]) ME cl) (g : Nat → AV) (h : AllP (fun p => g p.1 = p.2) [(1, iV w), (2, iV n), (3, .ptr 0 0)]) :
    SW Try.prog none (nthC 1 (bodyF Try.f23)) (midK 58 [(1, iV w), (2, iV n), (3, .ptr 0 0), (8, .ptr 1 0), (9, iV 0)] (tkS d L G)) ⟨⟨58, g⟩, []⟩ ⟨[(0, .cells none false (dayC d))], 1⟩ := by
  obtain ⟨O, hO⟩ : ∃ O : Ar, O = std := ⟨_, rfl⟩
  obtain ⟨g1, g2, g3, _⟩ := h
  simp only at g1 g2 g3
  rw [← updT_self g1, ← updT_self g2, ← updT_self g3]
  refine SW.ren ?_
  refine SW.runD tok mixed hO (by rfl) (by cbv <;> rfl) (by trivial) ?_
  refine AnyE.many [3, 16] (by cbv <;> rfl) (by rfl) ⟨?_, ?_, trivial⟩
  · refine PickE.callQ e1 (by cbv <;> rfl) (by cbv <;> rfl) ?_ ?_
    · exact (by repeat (first | exact trivial | refine And.intro (by first | exact lv_of hO (by cbv <;> rfl) (by trivial) | (cbv <;> rfl)) ?_))
    refine AnyE.run tok hO (by rfl) (by cbv <;> rfl) (by trivial) ?_
    refine AnyE.dec tok hO (by rfl) (by cbv <;> rfl) (by trivial) (fun h1 => ?_) (fun h1 => ?_)
    rotate_left
    · exfalso; subst hO; simp [std] at h1; omega
    refine AnyE.run tok hO (by rfl) (by cbv <;> rfl) (by trivial) ?_
    refine AnyE.dec tok hO (by rfl) (by cbv <;> rfl) (by trivial) (fun h2 => ?_) (fun h2 => ?_)
    rotate_left
    · exfalso; subst hO; simp [std] at h2; omega
    refine AnyE.run tok hO (by rfl) (by cbv <;> rfl) (by trivial) ?_
    refine AnyE.many [12, 16] (by cbv <;> rfl) (by rfl) ⟨?_, ?_, trivial⟩
    · skip
      refine PickE.callE e2.ent (e2.call _) (by cbv <;> rfl) (by cbv <;> rfl) ?_
      rintro r st' ⟨rfl, rfl⟩
      refine ⟨?_, ?_⟩
      · exact (by repeat (first | exact trivial | refine And.intro (by first | exact lv_of hO (by cbv <;> rfl) (by trivial) | (cbv <;> rfl)) ?_))
      refine AnyE.run tok hO (by rfl) (by cbv <;> rfl) (by trivial) ?_
      refine AnyE.effK tok hO (by cbv <;> rfl) (by cbv <;> rfl) (by trivial) ?_ ?_
      · exact (by repeat (first | exact trivial | refine And.intro (by first | exact lv_of hO (by cbv <;> rfl) (by trivial) | (cbv <;> rfl)) ?_))
      refine AnyE.run tok hO (by rfl) (by cbv <;> rfl) (by trivial) ?_
      refine AnyE.effK tok hO (by cbv <;> rfl) (by cbv <;> rfl) (by trivial) ?_ ?_
      · exact (by repeat (first | exact trivial | refine And.intro (by first | exact lv_of hO (by cbv <;> rfl) (by trivial) | (cbv <;> rfl)) ?_))
      refine AnyE.run tok hO (by rfl) (by cbv <;> rfl) (by trivial) ?_
      refine ⟨tabR [(1, 2)], ⟨⟨58, getT [(1, iV w), (2, iV n), (3, .ptr 0 0), (8, .ptr 1 0), (9, iV 0)]⟩, []⟩, tkS d L G, ?_, rfl, _, rfl, ⟨rfl, rfl, rfl, rfl, rfl, trivial⟩, rfl⟩
      exact WeakR.tab rfl rfl (by simp) (by rfl) (by show 1 ≤ 2; omega) (by rfl) ⟨RenV.closed Below.lit, RenV.closed Below.lit, RenV.ptr (by omega), RenV.ptr (by omega), RenV.closed Below.lit, trivial⟩ ⟨⟨by omega, _, rfl, .cells (.cons (RenV.closed Below.lit) (.cons (RenV.closed Below.lit) (.cons (RenV.closed (womsV_below d)) (.cons (RenV.closed (lotsV_below d)) (.cons (RenV.closed (cntsV_below d)) (.cons (RenV.closed hG) (.cons RenV.any .nil))))))), rfl⟩, ⟨by omega, _, rfl, .cells (RenVs.closed (dayC_below d)), rfl⟩, trivial⟩
    · refine PickE.effL tok hO (by cbv <;> rfl) (by cbv <;> rfl) (by trivial) ?_ ?_
      · exact (by repeat (first | exact trivial | refine And.intro (by first | exact LV.of (lv_of hO (by cbv <;> rfl) (by trivial)) | exact ⟨_, lv_of hO (by cbv <;> rfl) (by trivial), Eqv.lit h1⟩ | exact ⟨_, lv_of hO (by cbv <;> rfl) (by trivial), Eqv.lit h2⟩) ?_))
      refine AnyE.run tok hO (by rfl) (by cbv <;> rfl) (by trivial) ?_
      refine AnyE.many [12] (by cbv <;> rfl) (by rfl) ⟨?_, trivial⟩
      refine PickE.callE e2.ent (e2.call _) (by cbv <;> rfl) (by cbv <;> rfl) ?_
      rintro r st' ⟨rfl, rfl⟩
      refine ⟨?_, ?_⟩
      · exact (by repeat (first | exact trivial | refine And.intro (by first | exact lv_of hO (by cbv <;> rfl) (by trivial) | (cbv <;> rfl)) ?_))
      refine AnyE.run tok hO (by rfl) (by cbv <;> rfl) (by trivial) ?_
      refine AnyE.effK tok hO (by cbv <;> rfl) (by cbv <;> rfl) (by trivial) ?_ ?_
      · exact (by repeat (first | exact trivial | refine And.intro (by first | exact lv_of hO (by cbv <;> rfl) (by trivial) | (cbv <;> rfl)) ?_))
      refine AnyE.run tok hO (by rfl) (by cbv <;> rfl) (by trivial) ?_
      refine ⟨tabR [(1, 1)], ⟨⟨58, getT [(1, iV w), (2, iV n), (3, .ptr 0 0), (8, .ptr 1 0), (9, iV 0)]⟩, []⟩, tkS d L G, ?_, rfl, _, rfl, ⟨rfl, rfl, rfl, rfl, rfl, trivial⟩, rfl⟩
      exact WeakR.tab rfl rfl (by simp) (by rfl) (by show 1 ≤ 2; omega) (by rfl) ⟨RenV.closed Below.lit, RenV.closed Below.lit, RenV.ptr (by omega), RenV.ptr (by omega), RenV.closed Below.lit, trivial⟩ ⟨⟨by omega, _, rfl, .cells (.cons (RenV.closed Below.lit) (.cons (RenV.closed Below.lit) (.cons (RenV.closed (womsV_below d)) (.cons (RenV.closed (lotsV_below d)) (.cons (RenV.closed (cntsV_below d)) (.cons (RenV.closed hG) (.cons RenV.any .nil))))))), rfl⟩, ⟨by omega, _, rfl, .cells (RenVs.closed (dayC_below d)), rfl⟩, trivial⟩
  · refine PickE.eff tok hO (by cbv <;> rfl) (by cbv <;> rfl) (by trivial) ?_ ?_
    · exact (by repeat (first | exact trivial | refine And.intro (by first | exact lv_of hO (by cbv <;> rfl) (by trivial) | (cbv <;> rfl)) ?_))
    refine AnyE.run tok hO (by rfl) (by cbv <;> rfl) (by trivial) ?_
    refine AnyE.many [3] (by cbv <;> rfl) (by rfl) ⟨?_, trivial⟩
    refine PickE.callQ e1 (by cbv <;> rfl) (by cbv <;> rfl) ?_ ?_
    · exact (by repeat (first | exact trivial | refine And.intro (by first | exact lv_of hO (by cbv <;> rfl) (by trivial) | (cbv <;> rfl)) ?_))
    refine AnyE.run tok hO (by rfl) (by cbv <;> rfl) (by trivial) ?_
    refine AnyE.dec tok hO (by rfl) (by cbv <;> rfl) (by trivial) (fun h1 => ?_) (fun h1 => ?_)
    rotate_left
    · exfalso; subst hO; simp [std] at h1; omega
    refine AnyE.run tok hO (by rfl) (by cbv <;> rfl) (by trivial) ?_
    refine AnyE.dec tok hO (by rfl) (by cbv <;> rfl) (by trivial) (fun h2 => ?_) (fun h2 => ?_)
    rotate_left
    · exfalso; subst hO; simp [std] at h2; omega
    refine AnyE.run tok hO (by rfl) (by cbv <;> rfl) (by trivial) ?_
    refine AnyE.many [12] (by cbv <;> rfl) (by rfl) ⟨?_, trivial⟩
    refine PickE.callE e2.ent (e2.call _) (by cbv <;> rfl) (by cbv <;> rfl) ?_
    rintro r st' ⟨rfl, rfl⟩
    refine ⟨?_, ?_⟩
    · exact (by repeat (first | exact trivial | refine And.intro (by first | exact lv_of hO (by cbv <;> rfl) (by trivial) | (cbv <;> rfl)) ?_))
    refine AnyE.run tok hO (by rfl) (by cbv <;> rfl) (by trivial) ?_
    refine AnyE.effK tok hO (by cbv <;> rfl) (by cbv <;> rfl) (by trivial) ?_ ?_
    · exact (by repeat (first | exact trivial | refine And.intro (by first | exact lv_of hO (by cbv <;> rfl) (by trivial) | (cbv <;> rfl)) ?_))
    refine AnyE.run tok hO (by rfl) (by cbv <;> rfl) (by trivial) ?_
    refine ⟨tabR [(1, 1)], ⟨⟨58, getT [(1, iV w), (2, iV n), (3, .ptr 0 0), (8, .ptr 1 0), (9, iV 0)]⟩, []⟩, tkS d L G, ?_, rfl, _, rfl, ⟨rfl, rfl, rfl, rfl, rfl, trivial⟩, rfl⟩
    exact WeakR.tab rfl rfl (by simp) (by rfl) (by show 1 ≤ 2; omega) (by rfl) ⟨RenV.closed Below.lit, RenV.closed Below.lit, RenV.ptr (by omega), RenV.ptr (by omega), RenV.closed Below.lit, trivial⟩ ⟨⟨by omega, _, rfl, .cells (.cons (RenV.closed Below.lit) (.cons (RenV.closed Below.lit) (.cons (RenV.closed (womsV_below d)) (.cons (RenV.closed (lotsV_below d)) (.cons (RenV.closed (cntsV_below d)) (.cons (RenV.closed hG) (.cons RenV.any .nil))))))), rfl⟩, ⟨by omega, _, rfl, .cells (RenVs.closed (dayC_below d)), rfl⟩, trivial⟩
end Go.Fz
namespace Go.Fz
variable {P : Program} {T : Ti}
def ObjBelowM (n : Nat) : AObj → Prop
  | .map es _ => ∀ x ∈ es, Below n x.1 ∧ Below n x.2.1
  | .iter mid _ _ _ => mid < n
  | o => ObjBelow n o
theorem ObjR.belowM {φ : Fi} {w : World} {id n : Nat} {o : AObj} (hb : ObjBelowM n o) (h : ObjR φ w id o) : ObjR (cutN φ n) w id o := by
  cases o with
  | map es clock =>
    obtain ⟨ces, h1, h2, h3⟩ := h
    exact ⟨ces, h1, h2, fun i x hx => by
      obtain ⟨e, k1, k2, k3, k4⟩ := h3 i x hx
      obtain ⟨b1, b2⟩ := hb x (List.mem_of_getElem? hx)
      exact ⟨e, k1, b1 _ _ k2, b2 _ _ k3, k4⟩⟩
  | cells fm ro cs => exact ObjR.below (o := .cells fm ro cs) hb h
  | loop r => exact ObjR.below (o := .loop r) hb h
  | dfr => exact h
  | iter mid b c d => exact ⟨h.1, h.2.1, hb⟩
structure WeakM (n : Nat) (f1 : Fm) (st1 : St) (f2 : Fm) (st2 : St) : Prop where
  len : f2.ts.len = f1.ts.len
  dm : f2.dm = f1.dm
  dmlt : ∀ id ∈ f2.dm, id < st2.n
  get : ∀ i, f2.ts.get i = .any ∨ (f2.ts.get i = f1.ts.get i ∧ (st2.n = st1.n ∨ Below st2.n (f1.ts.get i)))
  lo : n ≤ st2.n
  hi : st2.n ≤ st1.n
  obj : ∀ id o, st2.h.get id = some o → st1.h.get id = some o ∧ id < st2.n ∧ (st2.n = st1.n ∨ ObjBelowM st2.n o)
theorem WeakM.ok {n : Nat} {f1 f2 : Fm} {st1 st2 : St} (hw : WeakM n f1 st1 f2 st2) {φ : Fi} {w : World} {a : Act} (hr : Rel φ st1 w) (ha : ActR φ f1 a) :
    Rel (cutN φ st2.n) st2 w ∧ ActR (cutN φ st2.n) f2 a ∧ Fr φ st1 w (cutN φ st2.n) st2 w := by
  have hsame : st2.n = st1.n → cutN φ st2.n = φ := fun h => by cases φ; simp only [cutN, h, ← hr.n]
  refine ⟨⟨rfl, fun id o h => (hw.obj id o h).2.1, fun id o h => hr.blk id o (hw.obj id o h).1, fun id o h => ?_, fun i j oi oj hi hj => hr.sep i j oi oj (hw.obj i oi hi).1 (hw.obj j oj hj).1, fun id o f h hf => ?_, fun b c hb => ?_⟩, ⟨⟨?_, fun i => ?_⟩, ?_, hw.dmlt⟩,
    ⟨rfl, rfl, rfl, Nat.le_refl _, fun _ _ _ => rfl, fun k ⟨id, o, h, ho, hb⟩ => .inl ⟨id, o, (hw.obj id o h).1, ho, hb⟩, fun b c hb => .inl hb⟩⟩
  · obtain ⟨h1, h2, h3⟩ := hw.obj id o h
    rcases h3 with h3 | h3
    · rw [hsame h3]; exact hr.obj id o h1
    · exact (hr.obj id o h1).belowM h3
  · obtain ⟨h1, h2, h3⟩ := hw.obj id o h
    rcases h3 with h3 | h3
    · rw [h3]; exact hr.fam id o f h1 hf
    · cases o with
      | cells fm ro cs => exact h3.2 f hf
      | loop r => cases hf
      | dfr => cases hf
      | map es clock => cases hf
      | iter a b c d => cases hf
  · obtain ⟨h1, h2, h3⟩ := hr.froz b c hb
    exact ⟨h1, h2, fun id o h => h3 id o (hw.obj id o h).1⟩
  · rw [hw.len]; exact ha.ts.size
  · rcases hw.get i with h | ⟨h, h2⟩
    · rw [h]; exact .any _
    · rw [h]
      rcases h2 with h2 | h2
      · rw [hsame h2]; exact ha.ts.get i
      · exact h2 _ _ (ha.ts.get i)
  · rw [hw.dm]; exact ha.dm
theorem SW.weakM {rd : Option Nat} {c : Code} {Q : Exit → Fm → St → Prop} {f : Fm} {st : St} (h : SW P rd c (fun e f1 st1 => Q e f1 st1 ∨ ∃ f2 st2, WeakM st.n f1 st1 f2 st2 ∧ Q e f2 st2) f st) : SW P rd c Q f st := by
  intro φ w a n h1 h2 h3
  refine wpIn_mono (h φ w a n h1 h2 h3) fun e a' w' hl => ?_
  obtain ⟨f1, st1, φ1, hq, he, hr, ha, hf⟩ := hl
  rcases hq with hq | ⟨f2, st2, hw, hq⟩
  · exact ⟨f1, st1, φ1, hq, he, hr, ha, hf⟩
  · obtain ⟨k1, k2, k3⟩ := hw.ok hr ha
    refine ⟨f2, st2, cutN φ1 st2.n, hq, ⟨?_, he.f, he.z⟩, k1, k2, hf.trans k3⟩
    rw [h2.n]; exact hw.lo
theorem SW.loopM {α : Type} {rd : Option Nat} {c : Code} {Q : Exit → Fm → St → Prop} {f : Fm} {st : St} (F : α → Fm) (S : α → St) (m : α → Nat) (Inv : α → Prop) (x0 : α) (hn : ∀ x, (S x).n = st.n) (h0 : Inv x0) (hw : Weak st.n f st (F x0) (S x0))
    (hround : ∀ x, Inv x → SW P rd c (thenQ (fun f' st' => ∃ x', m x' < m x ∧ Inv x' ∧ WeakM st.n f' st' (F x') (S x')) Q) (F x) (S x)) : SW P rd (.loop c) Q f st := by
  refine SW.pre hw (SW.loop (fun k f st => ∃ x, Inv x ∧ m x = k ∧ f = F x ∧ st = S x) (m x0) ⟨x0, h0, rfl, rfl, rfl⟩ fun k f' st' ⟨x, hx, hk, hf, hs⟩ => ?_)
  subst hf; subst hs; subst hk
  refine SW.weakM ((hround x hx).mono fun e f1 st1 hq => ?_)
  cases e with
  | normal =>
    obtain ⟨x', h1, h2, h3⟩ := hq
    exact .inr ⟨F x', S x', by rw [hn]; exact h3, m x', h1, x', h2, rfl, rfl, rfl⟩
  | _ => exact .inl hq
def AllOM (q : Prop) (n : Nat) (h1 : Hp) : Hp → Prop
  | [] => True
  | x :: l => (h1.get x.1 = some x.2 ∧ x.1 < n ∧ (q ∨ ObjBelowM n x.2)) ∧ AllOM q n h1 l
theorem AllOM.ok {q : Prop} {n : Nat} {h1 : Hp} : ∀ {h : Hp}, AllOM q n h1 h → ∀ x ∈ h, h1.get x.1 = some x.2 ∧ x.1 < n ∧ (q ∨ ObjBelowM n x.2)
  | [], _, x, h => by cases h
  | y :: l, h, x, hx => by
    rcases List.mem_cons.1 hx with rfl | hx
    · exact h.1
    · exact h.2.ok x hx
theorem WeakM.by {n : Nat} {f1 : Fm} {st1 : St} {l : List (Nat × AV)} {len : Nat} {dm : List Nat} {h2 : Hp} {n2 : Nat} (e1 : len = f1.ts.len) (e2 : dm = f1.dm) (e3 : ∀ id ∈ dm, id < n2) (e5 : n ≤ n2) (e6 : n2 ≤ st1.n)
    (e4 : AllW (n2 = st1.n) n2 f1.ts.get l) (e7 : AllOM (n2 = st1.n) n2 st1.h h2) : WeakM n f1 st1 ⟨⟨len, getT l⟩, dm⟩ ⟨h2, n2⟩ :=
  ⟨e1, e2, e3, getT_weak l e4.ok, e5, e6, Hp.get_all _ e7.ok⟩
end Go.Fz
namespace Go.Fz
variable {P : Program} {T : Ti}
def not01 (j : Nat) : Bool := !(Nat.beq j 0) && !(Nat.beq j 1)
def roM (es : List (AV × AV × Nat)) (clock : Nat) : St := ⟨[(1, .cells none true [.mp 0]), (0, .map es clock)], 2⟩
theorem roM_get {es : List (AV × AV × Nat)} {clock id : Nat} {o : AObj} (h : (roM es clock).h.get id = some o) : (id = 1 ∧ o = .cells none true [.mp 0]) ∨ (id = 0 ∧ o = .map es clock) := by
  simp only [roM, Hp.get] at h
  split at h
  · rename_i hi; cases h; exact .inl ⟨hi.symm, rfl⟩
  · split at h
    · rename_i hi; cases h; exact .inr ⟨hi.symm, rfl⟩
    · cases h
theorem call_roM {g : FuncId} {args args2 : List AV} {r : AV} {m mid bid : Nat} {fm : Option Nat} {ro : Bool} {es : List (AV × AV × Nat)} {clock : Nat} {st : St} (hm : st.h.get mid = some (.map es clock)) (hb : st.h.get bid = some (.cells fm ro [.mp mid]))
    (hes : ∀ x ∈ es, Below 0 x.1 ∧ Below 0 x.2.1) (hr : Below 0 r)
    (ha : ∀ (φ : Fi) (us : List Value), VRL φ args us → VRL ⟨fun i => if i = 0 then φ.f mid else φ.f bid, 2, φ.z⟩ args2 us)
    (h : CallW P g args2 (roM es clock) (fun v st' => st'.h.get 0 = some (.map es clock) ∧ freeB st'.h not01 = true ∧ Eqv (frz st'.h not01 m v) r)) : CallW P g args st (fun v st' => v = r ∧ st' = st) := by
  intro φ w cargs n hrel hargs
  obtain ⟨φ0, hφ0⟩ : ∃ φ0 : Fi, φ0 = ⟨fun i => if i = 0 then φ.f mid else φ.f bid, 2, φ.z⟩ := ⟨_, rfl⟩
  have f0 : φ0.f 0 = φ.f mid := by rw [hφ0]; rfl
  have f1 : φ0.f 1 = φ.f bid := by rw [hφ0]; rfl
  have n0 : φ0.n = 2 := by rw [hφ0]
  have z0 : φ0.z = φ.z := by rw [hφ0]
  have hne : mid ≠ bid := fun e => by rw [e, hb] at hm; cases hm
  have closed : ∀ {a : AV} {v : Value}, Below 0 a → VR φ a v → VR φ0 a v := fun hb h =>
    VR.mono (φ := ⟨φ.f, 0, φ.z⟩) (φ' := φ0) ⟨Nat.zero_le _, fun id hid => absurd hid (Nat.not_lt_zero id), fun b c hb => by rw [z0]; exact hb⟩ (hb _ _ h)
  have hblk : (φ.f mid).b ≠ (φ.f bid).b := fun he => by
    obtain ⟨⟨f, hf, _⟩, _⟩ := hrel.sep mid bid _ _ hm hb hne rfl he
    cases hf
  have hrel0 : Rel φ0 (roM es clock) w := by
    refine ⟨n0, fun j o h => ?_, fun j o h => ?_, fun j o h => ?_, fun i j oi oj hi hj hij ho hbb => ?_, fun j o f h hf => ?_, fun b c hb' => ?_⟩
    · rcases roM_get h with ⟨rfl, rfl⟩ | ⟨rfl, rfl⟩ <;> (show _ < 2; omega)
    · rcases roM_get h with ⟨rfl, rfl⟩ | ⟨rfl, rfl⟩
      · rw [f1]; exact hrel.blk _ _ hb
      · rw [f0]; exact hrel.blk _ _ hm
    · rcases roM_get h with ⟨rfl, rfl⟩ | ⟨rfl, rfl⟩
      · refine ⟨fun i a hi => ?_, fun h => by cases h⟩
        obtain ⟨v, h1, h2⟩ := (hrel.obj bid _ hb).1 0 (.mp mid) rfl
        cases i with
        | zero =>
          cases hi
          obtain ⟨rfl, _⟩ := h2.mp_inv
          have hv := VR.mp (φ := φ0) 0 (by rw [n0]; omega)
          rw [f0] at hv
          exact ⟨_, by rw [f1]; exact h1, hv⟩
        | succ i => cases hi
      · obtain ⟨ces, h1, h2, h3⟩ := hrel.obj mid _ hm
        refine ⟨ces, by rw [f0]; exact h1, h2, fun i x hx => ?_⟩
        obtain ⟨e, k1, k2, k3, k4⟩ := h3 i x hx
        obtain ⟨b1, b2⟩ := hes x (List.mem_of_getElem? hx)
        exact ⟨e, k1, closed b1 k2, closed b2 k3, k4⟩
    · exfalso
      rcases roM_get hi with ⟨rfl, rfl⟩ | ⟨rfl, rfl⟩
      · cases ho
      · rcases roM_get hj with ⟨rfl, rfl⟩ | ⟨rfl, rfl⟩
        · rw [f0, f1] at hbb; exact hblk hbb
        · exact hij rfl
    · rcases roM_get h with ⟨rfl, rfl⟩ | ⟨rfl, rfl⟩ <;> cases hf
    · obtain ⟨h1, h2, h3⟩ := hrel.froz b c (by rw [← z0]; exact hb')
      refine ⟨h1, h2, fun j o h ho => ?_⟩
      rcases roM_get h with ⟨rfl, rfl⟩ | ⟨rfl, rfl⟩
      · cases ho
      · rw [f0]; exact h3 mid _ hm rfl
  refine (h φ0 w cargs n hrel0 (by have := ha φ _ hargs; rw [hφ0]; exact this)).mono fun e w1 hp => ?_
  obtain ⟨v, cv, st1, φ1, rfl, ⟨hmap, hfree, hv⟩, hvr, hext, hrel1, hfr⟩ := hp
  obtain ⟨hrel2, hfr2⟩ := hrel1.freeze hfree
  have hvr2 := frz_ok (D := not01) hrel1 m hvr
  replace hvr2 := hv _ _ hvr2
  have hfr3 := hfr.trans hfr2
  have e0 : φ1.f 0 = φ.f mid := (hext.f 0 (by rw [n0]; omega)).trans f0
  have hown : ∀ b, Owns φ0 (roM es clock) b → b = (φ.f mid).b := fun b ⟨j, o, h, ho, hb⟩ => by
    rcases roM_get h with ⟨rfl, rfl⟩ | ⟨rfl, rfl⟩
    · cases ho
    · rw [← hb, f0]
  have hkeep : (st1.keep fun i => !not01 i).h.get 0 = some (.map es clock) := Hp.filter_get (p := fun i => !not01 i) hmap (by rfl)
  have hzs : ∀ b c, zOf φ1 st1.h not01 w1 b = some c → φ.z b = some c ∨ w.heap.size ≤ b := fun b c hb => by
    rcases hfr3.zs b c hb with h | h | h
    · exact .inl (by rw [← z0]; exact h)
    · exfalso
      exact (hrel2.froz b c hb).2.2 0 _ hkeep rfl (by show (φ1.f 0).b = b; rw [e0, hown b h])
    · exact .inr h
  have hext3 : Ext φ ⟨φ.f, φ.n, zOf φ1 st1.h not01 w1⟩ := ⟨Nat.le_refl _, fun _ _ => rfl, fun b c hb => zOf_old (hext.z b c (by rw [z0]; exact hb))⟩
  have hback : ∀ {a : AV} {v : Value}, Below 0 a → VR ⟨φ1.f, φ1.n, zOf φ1 st1.h not01 w1⟩ a v → VR ⟨φ.f, φ.n, zOf φ1 st1.h not01 w1⟩ a v := fun hb h =>
    VR.mono (φ := ⟨φ1.f, 0, zOf φ1 st1.h not01 w1⟩) (φ' := ⟨φ.f, φ.n, zOf φ1 st1.h not01 w1⟩) ⟨Nat.zero_le _, fun id hid => absurd hid (Nat.not_lt_zero id), fun b c hb => hb⟩ (hb _ _ h)
  have hsame : ∀ k, k < w.heap.size → k ≠ (φ.f mid).b → w1.heap[k]? = w.heap[k]? := fun k hk hne => hfr3.block k hk fun ho => hne (hown k ho)
  refine ⟨r, cv, st, ⟨φ.f, φ.n, zOf φ1 st1.h not01 w1⟩, rfl, ⟨rfl, rfl⟩, hback hr hvr2, hext3, ?_, ?_⟩
  · refine ⟨hrel.n, hrel.lt, fun id o ho => Nat.lt_of_lt_of_le (hrel.blk id o ho) hfr3.size, fun id o ho => ?_, hrel.sep, hrel.fam, fun b c hb => ?_⟩
    · by_cases hi : id = mid
      · subst hi
        rw [hm] at ho; cases ho
        obtain ⟨ces, h1, h2, h3⟩ := hrel1.obj 0 _ hmap
        refine ⟨ces, by rw [← h1, e0], h2, fun i x hx => ?_⟩
        obtain ⟨e, k1, k2, k3, k4⟩ := h3 i x hx
        obtain ⟨b1, b2⟩ := hes x (List.mem_of_getElem? hx)
        have hz : Ext φ1 ⟨φ1.f, φ1.n, zOf φ1 st1.h not01 w1⟩ := ⟨Nat.le_refl _, fun _ _ => rfl, fun b c hb => zOf_old hb⟩
        exact ⟨e, k1, hback b1 (k2.mono hz), hback b2 (k3.mono hz), k4⟩
      · refine (hrel.obj id o ho).same hext3 (by rw [hrel.n]; exact hrel.lt id o ho) (hsame _ (hrel.blk id o ho) fun he => ?_)
        obtain ⟨⟨f, hf, _⟩, _⟩ := hrel.sep mid id _ o hm ho (Ne.symm hi) rfl he.symm
        cases hf
    · obtain ⟨h1, h2, _⟩ := hrel2.froz b c hb
      refine ⟨h1, h2, fun id o ho hown' hbb => ?_⟩
      rcases hzs b c hb with h3 | h3
      · exact (hrel.froz b c h3).2.2 id o ho hown' hbb
      · have := hrel.blk id o ho
        have hbb' : (φ.f id).b = b := hbb
        omega
  · exact ⟨hfr3.os, hfr3.tape, hfr3.output, hfr3.size, fun k hk hno => hsame k hk (fun he => hno ⟨mid, _, hm, rfl, he.symm⟩), fun k hk => .inl hk, fun b c hb => (hzs b c hb).elim .inl fun h => .inr (.inr h)⟩
theorem CallW.mpArg {g : FuncId} {st : St} {k : AV → St → Prop} (A : AV → List AV) {id : Nat} (hA : ∀ (φ : Fi) (us : List Value), VRL φ (A (.mp id)) us → ∃ b, VRL φ (A (.lit (.map b))) us) (h : ∀ b, CallW P g (A (.lit (.map b))) st k) : CallW P g (A (.mp id)) st k := fun φ w cargs n h1 h2 => by
  obtain ⟨b, hb⟩ := hA φ _ h2
  exact h b φ w cargs n h1 hb
end Go.Fz
namespace Go.Fz
open Go.Proofs
set_option maxRecDepth 100000
section
variable {P : Program} {T : Ti}
theorem OpsW.pre {rd : Option Nat} {ops : Array Oper} {l : List Nat} {K : Fm → St → Prop} {f f2 : Fm} {st st2 : St} (hw : Weak st.n f st f2 st2) (h : OpsW P rd ops l K f2 st2) : OpsW P rd ops l K f st := by
  intro φ w a n Q h1 h2 h3 hq
  obtain ⟨k1, k2, k3⟩ := hw.ok h2 h3
  have hn : st2.n = st.n := Nat.le_antisymm hw.hi hw.lo
  have hsame : cutN φ st2.n = φ := by cases φ; simp only [cutN, hn, ← h2.n]
  rw [hsame] at k1 k2 k3
  exact h φ w a n Q h1 k1 k2 fun a' w' hl => hq a' w' (hl.trans (Ext.refl _) k3)
theorem OpsW.sub {rd : Option Nat} {ops : Array Oper} {l : List Nat} {K : Fm → St → Prop} {f : Fm} {h1 h2 : Hp} {n : Nat} (hd : f.dm = []) (hs : ∀ id o, h2.get id = some o → h1.get id = some o ∧ id < n) (h : OpsW P rd ops l K f ⟨h2, n⟩) : OpsW P rd ops l K f ⟨h1, n⟩ :=
  OpsW.pre (f2 := f) (st2 := ⟨h2, n⟩) ⟨rfl, rfl, fun id hid => (by rw [hd] at hid; cases hid), fun i => .inr ⟨rfl, .inl rfl⟩, Nat.le_refl _, Nat.le_refl _, fun id o ho => ⟨(hs id o ho).1, (hs id o ho).2, .inl rfl⟩⟩ h
def ldAt (ops : Array Oper) (i : Nat) (f : Fm) : Option (TypeId × AV) := match ops[i]? with
  | none => none
  | some o => match wantA ops f.ts o with
    | some true => match o.op with
      | .load t p => some (t, Operand.av f.ts p)
      | _ => none
    | _ => none
theorem OpsW.ldI (hT : TOk P T) {rd : Option Nat} {ops : Array Oper} {K : Fm → St → Prop} {f : Fm} {st : St} {i : Nat} {l : List Nat} {t : TypeId} {p r : AV} (hx : ldAt ops i f = some (t, p)) (hr : loadA T st.h t p = some r)
    (h : OpsW P rd ops l K (putAt ops i f r) st) : OpsW P rd ops (i :: l) K f st := by
  unfold ldAt at hx
  split at hx
  · cases hx
  · rename_i o ho
    split at hx
    · rename_i hw
      split at hx
      · rename_i t' p' hop
        simp only [Option.some.injEq, Prod.mk.injEq] at hx
        obtain ⟨rfl, rfl⟩ := hx
        have hput : ∀ v, putAt ops i f v = f.put o.dst v := fun v => by simp [putAt, ho]
        rw [hput] at h
        refine OpsW.light hT ho hw ?_ h
        simp only [evG, evL, hop, hr]
      · cases hx
    · cases hx
theorem OpsW.cutU (hT : TOk P T) {rd : Option Nat} {ops : Array Oper} {K : Fm → St → Prop} {f : Fm} {st : St} {i : Nat} {l : List Nat} {t id off len sz u : Nat} {ex : Bool} {b : Int}
    (hx : sliAt ops i f = some (t, .sl id off len sz ex, none, some (.lit (.int .i64 b)))) (hu : b = Int.ofNat u) (hb : sliceB T t sz = true) (hle : u ≤ len)
    (h : OpsW P rd ops l K (putAt ops i f (.sl id off u sz (ex && u == len))) st) : OpsW P rd ops (i :: l) K f st := by
  obtain ⟨ti, tj, e, h1, h2, h3, h4, h5, h6, h7, h8⟩ := sliceB_ok hb
  subst hu
  unfold sliAt at hx
  split at hx
  · cases hx
  · rename_i o ho
    split at hx
    · rename_i hw
      split at hx
      · rename_i t' x lo' hi' hop
        simp only [Option.some.injEq, Prod.mk.injEq] at hx
        obtain ⟨rfl, k2, k3, k4⟩ := hx
        have hput : ∀ v, putAt ops i f v = f.put o.dst v := fun v => by simp [putAt, ho]
        rw [hput] at h
        have h0 : natOr 0 (none : Option AV) = some 0 := rfl
        refine OpsW.light hT ho hw ?_ h
        simp only [evG, hop, sliceA, k2, h1, h2, h3, h4, k3, k4, h0, natOr_lo, if_true, Option.map_none]
        rw [if_pos ⟨Nat.zero_le _, hle, .inl trivial⟩]
        simp
      · cases hx
    · cases hx
theorem OpsW.mkCap (hT : TOk P T) {rd : Option Nat} {ops : Array Oper} {K : Fm → St → Prop} {f : Fm} {st : St} {i : Nat} {l : List Nat} {t N : Nat} {b : Int} (hx : mkAt ops i f = some (t, .lit (.int .i64 0), .lit (.int .i64 b))) (hbN : b = Int.ofNat N) (hb : intsB T t = true) (hN : N ≤ 65536)
    (h : OpsW P rd ops l K (putAt ops i f (.sl st.n 0 0 1 (Nat.beq N 0))) (st.push (.cells none false (flatG 1 (intC fun _ => 0) N)))) : OpsW P rd ops (i :: l) K f st := by
  subst hbN
  unfold mkAt at hx
  split at hx
  · cases hx
  · rename_i o ho
    split at hx
    · rename_i hw
      split at hx
      · rename_i t' a b hop
        simp only [Option.some.injEq, Prod.mk.injEq] at hx
        obtain ⟨rfl, e2, e3⟩ := hx
        have hput : ∀ v, putAt ops i f v = f.put o.dst v := fun v => by simp [putAt, ho]
        rw [hput] at h
        unfold intsB at hb
        split at hb
        · rename_i ti hti
          split at hb
          · rename_i e he
            split at hb
            · rename_i j hj
              simp only [Bool.and_eq_true] at hb
              obtain ⟨⟨b1, b2⟩, b3⟩ := hb
              have hz : j.zero = [.int .i64 0] := by
                split at b3
                · assumption
                · cases b3
              have hs := Nat.eq_of_beq_eq_true b1
              refine OpsW.fresh hT ho hw ?_ h
              simp only [evF, hop, e2, e3, hti, he, hj]
              have h0 : (0 : Int) ≤ Int.ofNat N := Int.natCast_nonneg N
              rw [if_pos ⟨Int.le_refl _, h0, Int.ofNat_le.2 hN, Nat.le_of_ble_eq_true b2, by omega, by rw [hz, hs]; rfl⟩, hs]
              have hbe : ((0 : Int) == Int.ofNat N) = Nat.beq N 0 := by
                cases N with
                | zero => rfl
                | succ k => rfl
              show some (AV.sl st.n 0 0 1 ((0 : Int) == Int.ofNat N), zerosA j (N * 1)) = _
              rw [zeros_flat hz, hbe]
            · cases hb
          · cases hb
        · cases hb
      · cases hx
    · cases hx
end
theorem load_int {h : Hp} {id : Nat} {fm : Option Nat} {ro : Bool} {v : Int} (hg : h.get id = some (.cells fm ro [iV v])) : loadA T h 3 (.ptr id 0) = some (iV v) := by
  simp only [loadA, ptrOf, cellsAt, hg]
  rfl
def risE (many : Nat) : Nat → List Nat → Nat → List (List Nat)
  | 0, p, _ => [p]
  | m + 1, p, s => (List.range (many - m - s)).flatMap fun c => risE many m (p ++ [s + c]) (s + c + 1)
def risL (many : Nat) : List (List Nat) := (List.range (many + 1)).flatMap fun m => risE many m [] 0
def lsV (p : List Nat) : AV := intsV p.length false fun i => ((p.getD i 0 : Nat) : Int)
theorem lsV_below (p : List Nat) : Below 0 (lsV p) := intsV_below _ _ _
def extV (mc : Nat) : AV := .fn (.func 102) [] [.ptr 49 0, .ptr 51 0, .ptr mc 0, .ptr 52 0]
def rsH (mc y : Nat) (lv : AV) (q : Nat) (fm : Option Nat) (G : List AV) (h : Hp) : Hp := (52, .cells none false [extV mc]) :: (51, .cells none false [lv]) :: (49, .cells none false [.yld y]) :: (q, .cells fm false G) :: h
def rsS (mc y : Nat) (ex : Bool) (p : List Nat) (h : Hp) (n : Nat) (st : St) : Prop := ∃ q fm fl N, 50 ≤ q ∧ q ≠ 51 ∧ q ≠ 52 ∧ q < n ∧ p.length ≤ N ∧ (∀ i, i < p.length → fl i = ((p.getD i 0 : Nat) : Int)) ∧ st = ⟨rsH mc y (.sl q 0 p.length 1 ex) q fm (flatG 1 (intC fl) N) h, n⟩
def rsQ (K : List (List Nat) → Hp → Nat → Prop) (stop : List (List Nat) → List Nat → Hp → Nat → Prop) (mc y : Nat) (ex : Bool) (seen : List (List Nat)) (p : List Nat) (E : List (List Nat)) (v : AV) (st' : St) : Prop :=
  (v = .lit (.bool true) ∧ ∃ h n, rsS mc y ex p h n st' ∧ K (seen ++ E) h n) ∨ (v = .lit (.bool false) ∧ ∃ pre l post h n, E = pre ++ l :: post ∧ rsS mc y ex p h n st' ∧ stop (seen ++ pre) l h n)
def rsI (mc many : Nat) (h : Hp) (n : Nat) : Prop := 53 ≤ n ∧ (∀ x ∈ h, x.1 < 49 ∧ x.2.fam = none) ∧ ∃ fm ro, h.get mc = some (.cells fm ro [iV (many : Int)])
theorem rs_get {mc y : Nat} {lv : AV} {q : Nat} {fm : Option Nat} {G : List AV} {h : Hp} (h1 : 50 ≤ q) (h2 : q ≠ 51) (h3 : q ≠ 52) : (rsH mc y lv q fm G h).get q = some (.cells fm false G) := by
  unfold rsH
  simp only [Hp.get]
  rw [if_neg (by omega), if_neg (by omega), if_neg (by omega), if_pos trivial]
theorem rs_mc {mc y : Nat} {lv : AV} {q : Nat} {fm : Option Nat} {G : List AV} {h : Hp} (h1 : 50 ≤ q) (h2 : mc < 49) : (rsH mc y lv q fm G h).get mc = h.get mc := by
  unfold rsH
  simp only [Hp.get]
  rw [if_neg (by omega), if_neg (by omega), if_neg (by omega), if_neg (by omega)]
theorem take_snoc (fl : Nat → Int) (N L : Nat) (h : L ≤ N) (v : Int) : (flatG 1 (intC fl) N).take L ++ [iV v] = flatG 1 (intC (setI fl L v)) (L + 1) := by
  have h1 := flatG_part fl N 0 L (by omega)
  rw [List.drop_zero] at h1
  rw [h1]
  have h2 : flatG 1 (intC (setI fl L v)) L = flatG 1 (intC fun i => fl (0 + i)) L := flatG_congr fun i k hi => by
    show iV (setI fl L v i) = iV (fl (0 + i))
    rw [setI_ne (by omega), Nat.zero_add]
  show _ = flatG 1 (intC (setI fl L v)) L ++ [iV (setI fl L v L)]
  rw [h2, setI_self]
theorem app_rs {mc y t L q n : Nat} {lv : AV} {fm : Option Nat} {fl : Nat → Int} {N : Nat} {h : Hp} {v : Int} {ex : Bool} (hb : sliceB T t 1 = true) (h1 : 50 ≤ q) (h2 : q ≠ 51) (h3 : q ≠ 52) (hq : q < n) (hL : L ≤ N) (hL2 : L < 1000) (hh : ∀ x ∈ h, x.1 < 49 ∧ x.2.fam = none) (hn : 53 ≤ n) :
    ∃ h2, appendA T ⟨(n, .cells none false [iV v]) :: rsH mc y lv q fm (flatG 1 (intC fl) N) h, n + 1⟩ t t (.sl q 0 L 1 false) (.sl n 0 1 1 ex) = some (.sl (n + 1) 0 (L + 1) 1 false, ⟨h2, n + 1 + 1⟩) ∧
      ∀ id o, (rsH mc y lv (n + 1) (some (fm.getD q)) (flatG 1 (intC (setI fl L v)) (L + 1)) h).get id = some o → h2.get id = some o ∧ id < n + 1 + 1 := by
  obtain ⟨i, j, e, ht, hd, he, hz, h5, hb, hb0, hzl⟩ := sliceB_ok hb
  have hgq : Hp.get ((n, AObj.cells none false [iV v]) :: rsH mc y lv q fm (flatG 1 (intC fl) N) h) q = some (.cells fm false (flatG 1 (intC fl) N)) := by
    simp only [Hp.get]
    rw [if_neg (by omega)]
    exact rs_get h1 h2 h3
  have hgn : Hp.get ((n, AObj.cells none false [iV v]) :: rsH mc y lv q fm (flatG 1 (intC fl) N) h) n = some (.cells none false [iV v]) := by
    simp only [Hp.get]
    rw [if_pos trivial]
  have hlen : (flatG 1 (intC fl) N).length = N := by rw [flatG_length, Nat.mul_one]
  refine ⟨(n + 1, .cells (some (fm.getD q)) false (flatG 1 (intC (setI fl L v)) (L + 1))) :: truncH (fm.getD q) (L * 1) q ((n, AObj.cells none false [iV v]) :: rsH mc y lv q fm (flatG 1 (intC fl) N) h), ?_, fun id o ho => ?_⟩
  · unfold appendA
    simp only [ht, hd, he, slCells, cellsAt, hgq, hgn, slLen, hz]
    rw [if_pos (show True ∧ 0 + L * 1 ≤ (flatG 1 (intC fl) N).length from ⟨trivial, by rw [hlen]; omega⟩), if_pos ⟨trivial, by simp⟩]
    simp only [Nat.mul_one, List.drop_zero]
    rw [show List.take 1 [iV v] = [iV v] from rfl, take_snoc fl N L hL v, if_neg (by rw [show [iV v].all AV.one = true from rfl]; simp; omega), if_neg (by omega)]
    rfl
  · have hx := Hp.mem_of_get ho
    unfold rsH at ho hx
    have key : ∀ j x, (j = 52 ∨ j = 51 ∨ j = 49 ∨ j < 49) → x.fam = none → trunc1 (fm.getD q) (L * 1) (j == q) x = x := fun j x hj hx => by
      have hne : (j == q) = false := beq_eq_false_iff_ne.2 (by omega)
      rw [hne]
      cases x with
      | cells f' ro cs =>
        obtain rfl : f' = none := hx
        simp [trunc1]
      | loop r => rfl
      | dfr => rfl
      | map es clock => rfl
      | iter mid since seen last => rfl
    show Hp.get ((n + 1, _) :: truncH (fm.getD q) (L * 1) q ((n, AObj.cells none false [iV v]) :: rsH mc y lv q fm (flatG 1 (intC fl) N) h)) id = some o ∧ _
    by_cases e1 : id = n + 1
    · subst e1
      simp only [Hp.get] at ho ⊢
      rw [if_neg (by omega), if_neg (by omega), if_neg (by omega), if_pos trivial] at ho
      rw [if_pos trivial]
      exact ⟨ho, by omega⟩
    · have hid : id = 52 ∨ id = 51 ∨ id = 49 ∨ (id < 49 ∧ ∀ o', Hp.get h id = some o' → o'.fam = none) := by
        rcases List.mem_cons.1 hx with hx | hx
        · cases hx; exact .inl rfl
        rcases List.mem_cons.1 hx with hx | hx
        · cases hx; exact .inr (.inl rfl)
        rcases List.mem_cons.1 hx with hx | hx
        · cases hx; exact .inr (.inr (.inl rfl))
        rcases List.mem_cons.1 hx with hx | hx
        · cases hx; exact absurd rfl e1
        · exact .inr (.inr (.inr ⟨(hh _ hx).1, fun o' ho' => (hh _ (Hp.mem_of_get ho')).2⟩))
      have hlt : id < 53 := by omega
      refine ⟨?_, by omega⟩
      simp only [Hp.get]
      rw [if_neg (by omega)]
      show Hp.get ((n, _) :: truncH (fm.getD q) (L * 1) q (rsH mc y lv q fm (flatG 1 (intC fl) N) h)) id = some o
      simp only [Hp.get]
      rw [if_neg (by omega), truncH_get]
      have ho2 : Hp.get (rsH mc y lv q fm (flatG 1 (intC fl) N) h) id = some o := by
        unfold rsH
        simp only [Hp.get] at ho ⊢
        by_cases k1 : 52 = id
        · rw [if_pos k1] at ho ⊢; exact ho
        · rw [if_neg k1] at ho ⊢
          by_cases k2 : 51 = id
          · rw [if_pos k2] at ho ⊢; exact ho
          · rw [if_neg k2] at ho ⊢
            by_cases k3 : 49 = id
            · rw [if_pos k3] at ho ⊢; exact ho
            · rw [if_neg k3, if_neg (by omega)] at ho ⊢; exact ho
      rw [ho2]
      show some (trunc1 (fm.getD q) (L * 1) (id == q) o) = some o
      rw [key id o (by omega) ?_]
      rcases hid with rfl | rfl | rfl | ⟨_, hf⟩
      · simp only [Hp.get] at ho; rw [if_pos trivial] at ho; cases ho; rfl
      · simp only [Hp.get] at ho; rw [if_neg (by omega), if_pos trivial] at ho; cases ho; rfl
      · simp only [Hp.get] at ho; rw [if_neg (by omega), if_neg (by omega), if_pos trivial] at ho; cases ho; rfl
      · refine hf o ?_
        simp only [Hp.get] at ho
        rw [if_neg (by omega), if_neg (by omega), if_neg (by omega), if_neg (by omega)] at ho
        exact ho
end Go.Fz
namespace Go.Fz
open Go.Proofs
set_option maxRecDepth 100000
section
variable (K : List (List Nat) → Hp → Nat → Prop) (stop : List (List Nat) → List Nat → Hp → Nat → Prop) (ok : List Nat → Prop) (mc y many : Nat) (ex : Bool)
def rsStep : Prop := ∀ seen l h n R, K seen h n → ok l → (∀ x ∈ R, 49 ≤ x.1 ∧ x.1 < n ∧ x.2.own = true) → YieldW Try.prog y [lsV l] ⟨R ++ h, n⟩ (fun v st' => (v = .lit (.bool true) ∧ ∃ h' n', n ≤ n' ∧ st' = ⟨R ++ h', n'⟩ ∧ K (seen ++ [l]) h' n') ∨ (v = .lit (.bool false) ∧ ∃ h' n', n ≤ n' ∧ st' = ⟨R ++ h', n'⟩ ∧ stop seen l h' n'))
variable {K stop ok mc y many ex}
set_option maxHeartbeats 8000000 in
theorem ext_leaf (hmc : mc < 49) (hmany : many < 100) (hid : ∀ s h n, K s h n → rsI mc many h n) (step : rsStep K stop ok y) (p : List Nat) (s : Nat) (seen : List (List Nat)) (h : Hp) (n : Nat) (st : St) (hp : p.length ≤ many) (hok : ok p) (hst : rsS mc y ex p h n st) (hK : K seen h n) :
    CallW Try.prog 102 [iV ((0 : Nat) : Int), iV (s : Int), .ptr 49 0, .ptr 51 0, .ptr mc 0, .ptr 52 0] st (rsQ K stop mc y ex seen p [p]) := by
  obtain ⟨O, hO⟩ : ∃ O : Ar, O = std := ⟨_, rfl⟩
  obtain ⟨q, fm, fl, N, q1, q2, q3, qn, hpN, hfl, rfl⟩ := hst
  obtain ⟨hn, hh, fm0, ro0, hmcg⟩ := hid _ _ _ hK
  obtain ⟨G, hG⟩ : ∃ G, flatG 1 (intC fl) N = G := ⟨_, rfl⟩
  have hs := step seen p h n [(52, .cells none false [extV mc]), (51, .cells none false [.sl q 0 p.length 1 ex]), (49, .cells none false [.yld y]), (q, .cells fm false G)] hK hok (fun x hx => by
    simp only [List.mem_cons, List.not_mem_nil, or_false] at hx
    rcases hx with rfl | rfl | rfl | rfl
    · exact ⟨by show 49 ≤ 52; omega, by show 52 < n; omega, rfl⟩
    · exact ⟨by show 49 ≤ 51; omega, by show 51 < n; omega, rfl⟩
    · exact ⟨by show 49 ≤ 49; omega, by show 49 < n; omega, rfl⟩
    · exact ⟨by show 49 ≤ q; omega, qn, rfl⟩)
  have c1 := fun (b : Bool) => clone_ok (ex := b) (off := 0) (n := p.length) (N := N) (fl := fl) (id := q) (fm := fm) (ro := false) (G := G) (r := lsV p) (st := ⟨rsH mc y (.sl q 0 p.length 1 ex) q fm G h, n⟩) (rs_get q1 q2 q3) hG (by omega) (by omega)
    (Eqv.isl rfl fun i k hi _ => Eqv.of (by show iV (fl (0 + i)) = iV ((p.getD i 0 : Nat) : Int); rw [Nat.zero_add, hfl i hi])) (lsV_below p)
  rw [hG]
  obtain ⟨lv, hlv⟩ : ∃ lv, lsV p = lv := ⟨_, rfl⟩
  rw [hlv] at hs c1
  have hfin : ∀ h' n', n ≤ n' → rsS mc y ex p h' n' ⟨rsH mc y (.sl q 0 p.length 1 ex) q fm G h', n'⟩ := fun h' n' hle => ⟨q, fm, fl, N, q1, q2, q3, by omega, hpN, hfl, by rw [hG]⟩
  obtain ⟨L, hL⟩ : ∃ L, p.length = L := ⟨_, rfl⟩
  rw [hL] at hs c1 hfin ⊢
  refine callW_of_body tok Try.func102 rfl ?_
  refine SW.seqRun tok hO (by cbv <;> rfl) (by trivial) ?_
  refine SW.seq ?_
  refine SW.seqRun tok hO (by cbv <;> rfl) (by trivial) ?_
  refine SW.condS (by cbv <;> rfl) (fun h1 => ?_) (fun h1 => ?_)
  rotate_left
  · exfalso
    subst hO; simp [std] at h1
  refine SW.seqRunD tok mixed hO (by kernel_rfl) (by cbv <;> rfl) (by trivial) ?_
  refine AnyE.callS en103 (c1 ex) (by cbv <;> rfl) (by cbv <;> rfl) ?_
  refine AnyE.run tok hO (by kernel_rfl) (by cbv <;> rfl) (by trivial) ?_
  refine AnyE.apply (c := .yld y) (args := [lv]) (by cbv <;> rfl) (by cbv <;> rfl) hs fun v st' hk => ?_
  rcases hk with ⟨rfl, h2, n2, hle, rfl, hk⟩ | ⟨rfl, h2, n2, hle, rfl, hk⟩
  · refine AnyE.run tok hO (by kernel_rfl) (by cbv <;> rfl) (by trivial) ?_
    exact SW.ret ⟨_, _, rfl, rfl, .inl ⟨rfl, h2, n2, hfin h2 n2 hle, hk⟩⟩
  · refine AnyE.run tok hO (by kernel_rfl) (by cbv <;> rfl) (by trivial) ?_
    exact SW.ret ⟨_, _, rfl, rfl, .inr ⟨rfl, [], p, [], h2, n2, rfl, hfin h2 n2 hle, by rw [List.append_nil]; exact hk⟩⟩
end
end Go.Fz
