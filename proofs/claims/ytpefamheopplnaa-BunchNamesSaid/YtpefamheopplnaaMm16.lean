/- Own work of the verifier of watercress: FzC10, FzC11, FzC12, FzC13, FzC14, FzC15, FzC16, FzC17, FzC18. -/
import Derived.Test.YtpefamheopplnaaMm15
set_option linter.unusedVariables false
set_option linter.unusedSimpArgs false
namespace Go.Fz
open Go.Proofs
set_option maxRecDepth 100000
section
variable {P : Program} {T : Ti}
def mkmAt (ops : Array Oper) (i : Nat) (f : Fm) : Bool := match ops[i]? with
  | none => false
  | some o => match wantA ops f.ts o with
    | some true => match o.op with
      | .makeMap _ none => true
      | _ => false
    | _ => false
theorem OpsW.mkMap {rd : Option Nat} {ops : Array Oper} {K : Fm → St → Prop} {f : Fm} {st : St} {i : Nat} {l : List Nat} (hx : mkmAt ops i f = true) (h : OpsW P rd ops l K (putAt ops i f (.mp st.n)) (st.push (.map [] 0))) : OpsW P rd ops (i :: l) K f st := by
  unfold mkmAt at hx
  split at hx
  · cases hx
  · rename_i o ho
    split at hx
    · rename_i hw
      split at hx
      · rename_i t hop
        have hput : ∀ v, putAt ops i f v = f.put o.dst v := fun v => by simp [putAt, ho]
        rw [hput] at h
        refine OpsW.value ho hw (fun c hc => by rw [hop] at hc; cases hc) (fun φ w a h2 h3 => ?_) h
        have hp := h2.push (.map #[] 0) (.map [] 0) ⟨w.heap.size, 0, 0⟩ rfl ⟨#[], by rw [Fi.push_new]; exact alloc_heap_new' w _, rfl, fun i x h => by simp at h⟩ (fun _ h => by cases h)
        refine ⟨_, _, .map (some w.heap.size), .inl ?_, ?_, hp.1, φ.push_ext _, hp.2⟩
        · simp [execOp, hop, Instr.makeMap, Result.andThen]
        · have := VR.mp (φ := φ.push ⟨w.heap.size, 0, 0⟩) φ.n (by rw [Fi.push_n]; omega)
          rw [Fi.push_new] at this
          rw [← h2.n]; exact this
      · cases hx
    · cases hx
end
section
variable {P : Program}
theorem OpsW.callS {rd : Option Nat} {ops : Array Oper} {i : Nat} {l : List Nat} {K : Fm → St → Prop} {f : Fm} {st : St} {g : FuncId} {args : List AV} {k : AV → St → Prop} (he : Enters P g) (hp : CallW P g args st k) (hc : callAt ops i f = some (g, args))
    (h : ∀ v st', k v st' → OpsW P rd ops l K (putAt ops i f v) st') : OpsW P rd ops (i :: l) K f st := by
  obtain ⟨o, first, caps, az, ho, hw, hcc, ha, hput⟩ := callAt_ok hc
  subst ha
  exact OpsW.call ho hw hcc (show ApplyW P (.fn (.func g) first caps) az st _ from ⟨he, hp.mono fun v st' hk => by have := h v st' hk; rwa [hput] at this⟩)
end
def outsI (d : DayD) : List (Nat → Int) → AV
  | [] => nl3
  | f :: l => .isl (l.length + 1) 8 false (outG d (f :: l))
theorem outsI_below (d : DayD) (l : List (Nat → Int)) : Below 0 (outsI d l) := by
  cases l with
  | nil => exact Below.lit
  | cons f l => exact Below.isl fun i k _ _ => outG_below d _ i k
theorem choices83 (d : DayD) (h : Hp) (n : Nat) : CallW Try.prog 105 [dayV d] ⟨h, n⟩ (fun v st' => v = .fn (.func 122) [] [.ptr n 0] ∧ st' = ⟨(n, .cells none false (dayC d)) :: h, n + 1⟩) := by
  obtain ⟨O, hO⟩ : ∃ O : Ar, O = std := ⟨_, rfl⟩
  refine callW_of_body tok Try.func105 rfl ?_
  refine SW.seqRun tok hO (by cbv <;> rfl) (by trivial) ?_
  refine SW.seqRun tok hO (by cbv <;> rfl) (by trivial) ?_
  exact SW.ret ⟨_, _, rfl, rfl, rfl, rfl⟩
end Go.Fz
namespace Go.Fz
variable {P : Program} {T : Ti}
theorem Hp.filter_get {p : Nat → Bool} : ∀ {h : Hp} {id : Nat} {o : AObj}, h.get id = some o → p id = true → Hp.get (h.filter fun x => p x.1) id = some o
  | [], id, o, h, _ => by simp [Hp.get] at h
  | (i, x) :: r, id, o, h, hp => by
    simp only [Hp.get] at h
    simp only [List.filter_cons]
    split at h
    · rename_i hi; subst hi; cases h
      rw [if_pos hp]; simp [Hp.get]
    · rename_i hi
      have := Hp.filter_get h hp
      split
      · simp only [Hp.get]; rw [if_neg hi]; exact this
      · exact this
def NewV (r : Nat → AV) (id : Nat) (v : AV) : Prop := ∀ (φa φb : Fi) (u : Value) (k : Nat), φb.f k = φa.f id → k < φb.n → φb.z = φa.z → VR φa v u → VR φb (r k) u
theorem NewV.closed {a : AV} {id : Nat} (h : Below 0 a) : NewV (fun _ => a) id a := fun φa φb u k _ _ h3 hv => by
  have h1 := h _ _ hv
  exact VR.mono (φ := ⟨φa.f, 0, φa.z⟩) ⟨Nat.zero_le _, fun id hid => absurd hid (Nat.not_lt_zero id), fun b c hb => by rw [h3]; exact hb⟩ h1
theorem NewV.mp {id : Nat} : NewV (fun k => .mp k) id (.mp id) := fun φa φb u k h1 h2 h3 hv => by
  obtain ⟨rfl, _⟩ := hv.mp_inv
  rw [← h1]
  exact VR.mp k h2
theorem NewV.eqv {r : Nat → AV} {id : Nat} {a b : AV} (h : NewV r id b) (he : Eqv a b) : NewV r id a := fun φa φb u k h1 h2 h3 hv => h φa φb u k h1 h2 h3 (he _ _ hv)
inductive NewVs : (Nat → List AV) → Nat → List AV → Prop
  | nil {id : Nat} : NewVs (fun _ => []) id []
  | cons {r : Nat → AV} {rs : Nat → List AV} {id : Nat} {v : AV} {vs : List AV} (h : NewV r id v) (k : NewVs rs id vs) : NewVs (fun n => r n :: rs n) id (v :: vs)
theorem NewVs.ok {rs : Nat → List AV} {id : Nat} {vs : List AV} (h : NewVs rs id vs) : ∀ (φa φb : Fi) (us : List Value) (k : Nat), φb.f k = φa.f id → k < φb.n → φb.z = φa.z → VRL φa vs us → VRL φb (rs k) us := by
  induction h with
  | nil => intro φa φb us k _ _ _ hv; cases hv; exact .nil
  | cons h _ ih => intro φa φb us k h1 h2 h3 hv; cases hv with | cons a b => exact .cons (h φa φb _ k h1 h2 h3 a) (ih φa φb _ k h1 h2 h3 b)
theorem NewV.agg {rs : Nat → List AV} {id : Nat} {vs : List AV} (h : NewVs rs id vs) : NewV (fun k => .agg (rs k)) id (.agg vs) := fun φa φb u k h1 h2 h3 hv => by
  obtain ⟨us, rfl, hu⟩ := hv.agg_inv
  exact .agg (h.ok φa φb us k h1 h2 h3 hu)
theorem NewV.tup {rs : Nat → List AV} {id : Nat} {vs : List AV} (h : NewVs rs id vs) : NewV (fun k => .tup (rs k)) id (.tup vs) := fun φa φb u k h1 h2 h3 hv => by
  cases hv with
  | tup hu => exact .tup (h.ok φa φb _ k h1 h2 h3 hu)
structure Fresh (P : Program) (g : FuncId) (args : List AV) (r : Nat → AV) (es : List (AV × AV × Nat)) (clock : Nat) : Prop where
  ent : Enters P g
  call : ∀ st, CallW P g args st (fun v st' => v = r st.n ∧ st' = st.push (.map es clock))
theorem fresh_of_call {g : FuncId} {args : List AV} {r : Nat → AV} {es : List (AV × AV × Nat)} {clock : Nat} (m : Nat) (hent : Enters P g) (ha : AllB 0 args) (hes : ∀ x ∈ es, Below 0 x.1 ∧ Below 0 x.2.1)
    (h : CallW P g args ⟨[], 0⟩ (fun v st' => ∃ id, st'.h.get id = some (.map es clock) ∧ freeB st'.h (fun i => !Nat.beq i id) = true ∧ NewV r id (frz st'.h (fun i => !Nat.beq i id) m v))) : Fresh P g args r es clock := by
  refine ⟨hent, fun st φ w cargs n hrel hargs => ?_⟩
  have hrel0 : Rel ⟨φ.f, 0, φ.z⟩ ⟨[], 0⟩ w := ⟨rfl, fun _ _ h => by simp [Hp.get] at h, fun _ _ h => by simp [Hp.get] at h, fun _ _ h => by simp [Hp.get] at h, fun _ _ _ _ h => by simp [Hp.get] at h, fun _ _ _ h => by simp [Hp.get] at h,
    fun b c hb => ⟨(hrel.froz b c hb).1, (hrel.froz b c hb).2.1, fun _ _ h => by simp [Hp.get] at h⟩⟩
  refine (h ⟨φ.f, 0, φ.z⟩ w cargs n hrel0 (Below.list ha.ok hargs)).mono fun e w1 hp => ?_
  obtain ⟨v, cv, st1, φ1, rfl, ⟨id, hid, hfree, hv⟩, hvr, hext, hrel1, hfr⟩ := hp
  obtain ⟨hrel2, hfr2⟩ := hrel1.freeze hfree
  have hvr2 := frz_ok (D := fun i => !Nat.beq i id) hrel1 m hvr
  have hfr3 := hfr.trans hfr2
  have hnone : ∀ b, ¬ Owns ⟨φ.f, 0, φ.z⟩ ⟨[], 0⟩ b := fun b ⟨id, o, h, _⟩ => by simp [Hp.get] at h
  have hzs : ∀ b c, zOf φ1 st1.h (fun i => !Nat.beq i id) w1 b = some c → φ.z b = some c ∨ w.heap.size ≤ b := fun b c hb => (hfr3.zs b c hb).elim .inl fun h => h.elim (fun ho => absurd ho (hnone b)) .inr
  have hsame : ∀ k, k < w.heap.size → w1.heap[k]? = w.heap[k]? := fun k hk => hfr3.block k hk (hnone k)
  have hnew : w.heap.size ≤ (φ1.f id).b := (hfr.own (φ1.f id).b ⟨id, _, hid, rfl, rfl⟩).elim (fun ho => absurd ho (hnone _)) fun h => h
  have hkeep : (st1.keep fun i => !(fun i => !Nat.beq i id) i).h.get id = some (.map es clock) := Hp.filter_get (p := fun i => !(fun i => !Nat.beq i id) i) hid (by simp [Nat.beq_refl])
  obtain ⟨φ', hφ'⟩ : ∃ φ' : Fi, φ' = ⟨fun j => if j < φ.n then φ.f j else φ1.f id, φ.n + 1, zOf φ1 st1.h (fun i => !Nat.beq i id) w1⟩ := ⟨_, rfl⟩
  have hf1 : ∀ j, j < φ.n → φ'.f j = φ.f j := fun j hj => by rw [hφ']; exact if_pos hj
  have hf2 : φ'.f st.n = φ1.f id := by rw [hφ', ← hrel.n]; exact if_neg (Nat.lt_irrefl _)
  have hz : φ'.z = zOf φ1 st1.h (fun i => !Nat.beq i id) w1 := by rw [hφ']
  have hn : φ'.n = st.n + 1 := by rw [hφ', ← hrel.n]
  have hext3 : Ext φ φ' := ⟨by rw [hn, hrel.n]; omega, hf1, fun b c hb => by rw [hz]; exact zOf_old (hext.z b c hb)⟩
  have hold : ∀ j o, st.h.get j = some o → φ'.f j = φ.f j := fun j o ho => hf1 j (by rw [hrel.n]; exact hrel.lt j o ho)
  refine ⟨r st.n, cv, st.push (.map es clock), φ', rfl, ⟨rfl, rfl⟩, hv (φ1.froz st1.h (fun i => !Nat.beq i id) w1) φ' cv st.n hf2 (by rw [hn]; omega) hz hvr2, hext3, ?_, ?_⟩
  · refine ⟨hn, fun j o hj => ?_, fun j o hj => ?_, fun j o hj => ?_, fun i j oi oj hi hj hij ho hb => ?_, fun j o f hj hf => ?_, fun b c hb => ?_⟩
    · rw [St.get_push] at hj
      split at hj
      · show j < st.n + 1; omega
      · show j < st.n + 1; have := hrel.lt j o hj; omega
    · rw [St.get_push] at hj
      split at hj
      · rename_i e; subst e; rw [hf2]; exact hrel1.blk id _ hid
      · rw [hold j o hj]; have := hrel.blk j o hj; have := hfr3.size; omega
    · rw [St.get_push] at hj
      split at hj
      · rename_i e; subst e; cases hj
        obtain ⟨ces, h1, h2, h3⟩ := hrel1.obj id _ hid
        refine ⟨ces, by rw [hf2]; exact h1, h2, fun i x hx => ?_⟩
        obtain ⟨e, k1, k2, k3, k4⟩ := h3 i x hx
        obtain ⟨b1, b2⟩ := hes x (List.mem_of_getElem? hx)
        have hm : Ext ⟨φ1.f, 0, φ1.z⟩ φ' := ⟨Nat.zero_le _, fun id hid => absurd hid (Nat.not_lt_zero id), fun b c hb => by rw [hz]; exact zOf_old hb⟩
        exact ⟨e, k1, VR.mono hm (b1 _ _ k2), VR.mono hm (b2 _ _ k3), k4⟩
      · exact (hrel.obj j o hj).same hext3 (by rw [hrel.n]; exact hrel.lt j o hj) (hsame _ (hrel.blk j o hj))
    · rw [St.get_push] at hi hj
      split at hi
      · rename_i e; subst e
        split at hj
        · rename_i e2; exact absurd e2 hij
        · rw [hf2, hold j oj hj] at hb
          have := hrel.blk j oj hj; omega
      · split at hj
        · rename_i e; subst e
          rw [hf2, hold i oi hi] at hb
          have := hrel.blk i oi hi; omega
        · rw [hold i oi hi, hold j oj hj] at hb ⊢
          exact hrel.sep i j oi oj hi hj hij ho hb
    · rw [St.get_push] at hj
      split at hj
      · cases hj; cases hf
      · have := hrel.fam j o f hj hf; show f < st.n + 1; omega
    · rw [hz] at hb
      obtain ⟨h1, h2, h3⟩ := hrel2.froz b c hb
      refine ⟨h1, h2, fun j o hj hown hbb => ?_⟩
      rw [St.get_push] at hj
      split at hj
      · rename_i e; subst e; cases hj
        rw [hf2] at hbb
        exact h3 id _ hkeep rfl hbb
      · rw [hold j o hj] at hbb
        rcases hzs b c hb with h4 | h4
        · exact (hrel.froz b c h4).2.2 j o hj hown hbb
        · have := hrel.blk j o hj; omega
  · refine ⟨hfr3.os, hfr3.tape, hfr3.output, hfr3.size, fun k hk _ => hsame k hk, fun k ⟨j, o, hj, ho, hb⟩ => ?_, fun b c hb => (hzs b c (by rw [← hz]; exact hb)).elim .inl fun h => .inr (.inr h)⟩
    rw [St.get_push] at hj
    split at hj
    · rename_i e; subst e
      rw [hf2] at hb
      exact .inr (by omega)
    · exact .inl ⟨j, o, hj, ho, by rw [← hb, hold j o hj]⟩
theorem fresh_of_body (hT : TOk P T) {g : FuncId} {fn : Func} {c : Code} {args : List AV} {r : Nat → AV} {es : List (AV × AV × Nat)} {clock : Nat} (m : Nat) (hf : P.funcs[g]? = some fn) (hent : Enters P g) (hb : fn.body = some c) (ha : AllB 0 args) (hes : ∀ x ∈ es, Below 0 x.1 ∧ Below 0 x.2.1)
    (h : SW P none c (retQ T fn (fun v st' => ∃ id, st'.h.get id = some (.map es clock) ∧ freeB st'.h (fun i => !Nat.beq i id) = true ∧ NewV r id (frz st'.h (fun i => !Nat.beq i id) m v))) ⟨Ts.of args fn.ntmps, []⟩ ⟨[], 0⟩) : Fresh P g args r es clock :=
  fresh_of_call m hent ha hes (callW_of_body hT hf hb h)
end Go.Fz
namespace Go.Fz
open Go.Proofs
set_option maxRecDepth 100000
def workC (d : DayD) (l : List (Nat → Int)) (k : Nat) : List AV := [iV d.hand, iV d.flat, womsV d, lotsV d, cntsV d, outsI d l, .mp k]
def workM (d : DayD) (l : List (Nat → Int)) (k : Nat) : AV := .agg (workC d l k)
theorem freeB_none {h : Hp} {D : Nat → Bool} (hf : ∀ x ∈ h, x.2.fam = none) : freeB h D = true := List.all_eq_true.2 fun x hx => by
  simp [hf x hx]
theorem frz_outs {d : DayD} {f : Nat → Int} {l : List (Nat → Int)} {h : Hp} {q : Nat} (hq : 55 ≤ q) (hg : h.get q = some (.cells none false (outA d (f :: l)))) :
    NewV (workM d (f :: l)) 2 (frz h (fun i => !Nat.beq i 2) 3 (.agg [iV d.hand, iV d.flat, womsV d, lotsV d, cntsV d, .sl q 0 (l.length + 1) 8 false, .mp 2])) := by
  have hlen : (outA d (f :: l)).length = (l.length + 1) * 8 := outA_length d _
  have hD : (fun i => !Nat.beq i 2) q = true := by
    have : Nat.beq q 2 = false := by rw [← Bool.not_eq_true]; intro e; have := Nat.eq_of_beq_eq_true e; omega
    simp only [this]; rfl
  have h1 : frz h (fun i => !Nat.beq i 2) 2 (.sl q 0 (l.length + 1) 8 false) = .isl (l.length + 1) 8 false (fun i k => frz h (fun i => !Nat.beq i 2) 1 ((outA d (f :: l)).getD (0 + i * 8 + k) .any)) := by
    simp only [frz]
    rw [if_pos hD, hg]
    simp only
    rw [if_pos (by omega)]
  have h2 : Eqv (frz h (fun i => !Nat.beq i 2) 2 (.sl q 0 (l.length + 1) 8 false)) (outsI d (f :: l)) := by
    rw [h1]
    refine Eqv.isl rfl fun i k hi hk => Eqv.of ?_
    have h3 := flatG_get 8 (outG d (f :: l)) (l.length + 1) i k hi hk
    rw [Nat.zero_add, List.getD_eq_getElem?_getD]
    show frz h _ 1 ((flatG 8 (outG d (f :: l)) (l.length + 1))[i * 8 + k]?.getD .any) = _
    rw [h3]
    show frz h _ 1 (outG d (f :: l) i k) = _
    unfold outG outcC
    split <;> rfl
  exact NewV.agg (rs := workC d (f :: l)) (.cons (.closed Below.lit) (.cons (.closed Below.lit) (.cons (.closed (womsV_below d)) (.cons (.closed (lotsV_below d)) (.cons (.closed (cntsV_below d)) (.cons ((NewV.closed (outsI_below d _)).eqv h2) (.cons .mp .nil)))))))
set_option maxHeartbeats 8000000 in
theorem start_ok (d : DayD) (hc : d.check = 0) : Fresh Try.prog 76 [dayV d] (workM d d.seen.outs) (mapE mkV d.seen.E) d.seen.cl := by
  obtain ⟨O, hO⟩ : ∃ O : Ar, O = std := ⟨_, rfl⟩
  have hch := choices_start d hc
  refine fresh_of_body tok 3 Try.func76 en76 rfl ⟨dayV_below d, trivial⟩ (mapE_closed _) ?_
  refine SW.seqRun tok hO (by cbv <;> rfl) (by trivial) ?_
  refine SW.seq (SW.runN tok hO 1 (by cbv <;> rfl) (by trivial) ?_)
  refine OpsW.mkMap (by rfl) ?_
  refine OpsW.run tok hO (by cbv <;> rfl) (by trivial) ?_
  refine SW.seq ?_
  refine SW.seqRun tok hO (by cbv <;> rfl) (by trivial) ?_
  refine OpsW.callS en105 (choices83 d _ _) (by cbv <;> rfl) fun v st' hk => ?_
  obtain ⟨rfl, rfl⟩ := hk
  refine OpsW.run tok hO (by cbv <;> rfl) (by trivial) ?_
  refine SW.block ?_
  refine SW.pre (f2 := ⟨stTs, []⟩) (st2 := ⟨[(4, .cells none false (dayC d)), (3, .cells none false (stW d nl3)), (2, .map [] 0), (1, .cells none false stZ), (0, .cells none false (dayC d))], 5⟩) ?_ ?_
  · exact Weak.by rfl rfl (fun _ h => nomatch h) (Nat.le_refl _) (Nat.le_refl _) ⟨⟨rfl, .inl rfl⟩, ⟨rfl, .inl rfl⟩, ⟨rfl, .inl rfl⟩, ⟨rfl, .inl rfl⟩, trivial⟩ ⟨⟨rfl, by show _ < 5; omega, .inl rfl⟩, ⟨rfl, by show _ < 5; omega, .inl rfl⟩, ⟨rfl, by show _ < 5; omega, .inl rfl⟩, ⟨rfl, by show _ < 5; omega, .inl rfl⟩, ⟨rfl, by show _ < 5; omega, .inl rfl⟩, trivial⟩
  refine SW.rangeFunc (gf := 122) (first := []) (caps := [.ptr 4 0]) (by rfl) en122 ?_
  refine CallW.mono (show CallW Try.prog 122 [.yld 6, .ptr 4 0] ⟨stH d nl3 [] 0 [], 7⟩ _ from hch) fun v st' hk => ?_
  obtain ⟨h, n, rfl, hn, q, rfl, hq, hqn⟩ := hk
  refine ⟨stR, rfl, ?_⟩
  refine And.intro (fun h => by simp [stR] at h) ?_
  show SW Try.prog none _ _ ⟨stTs, [5]⟩ ⟨(6, .loop { stR with state := .exhausted }) :: (5, .dfr) :: (4, .cells none false (dayC d)) :: (3, .cells none false (stW d (outsV q d.seen.outs.length))) :: (2, .map (mapE mkV d.seen.E) d.seen.cl) :: (1, .cells none false stZ) :: (0, .cells none false (dayC d)) :: outsH d q d.seen.outs, n⟩
  generalize ({ stR with state := .exhausted } : ALoop) = LE
  generalize mapE mkV d.seen.E = ME
  generalize d.seen.cl = cl
  generalize d.seen.outs = outs at hqn ⊢
  cases outs with
  | nil =>
    refine SW.seqRun tok hO (by cbv <;> rfl) (by trivial) ?_
    refine SW.ret ⟨_, _, rfl, rfl, 2, rfl, by rfl, ?_⟩
    exact NewV.agg (rs := workC d []) (.cons (.closed Below.lit) (.cons (.closed Below.lit) (.cons (.closed (womsV_below d)) (.cons (.closed (lotsV_below d)) (.cons (.closed (cntsV_below d)) (.cons (.closed Below.lit) (.cons .mp .nil)))))))
  | cons f l =>
    obtain ⟨L, hL⟩ : ∃ n, l.length = n := ⟨_, rfl⟩
    show SW Try.prog none _ _ ⟨stTs, [5]⟩ ⟨(6, .loop LE) :: (5, .dfr) :: (4, .cells none false (dayC d)) :: (3, .cells none false (stW d (.sl q 0 (l.length + 1) 8 false))) :: (2, .map ME cl) :: (1, .cells none false stZ) :: (0, .cells none false (dayC d)) :: [(q, .cells none false (outA d (f :: l)))], n⟩
    rw [hL]
    obtain ⟨G, hG⟩ : ∃ G, outA d (f :: l) = G := ⟨_, rfl⟩
    rw [hG]
    refine SW.seqRun tok hO (by cbv <;> rfl) (by trivial) ?_
    refine SW.ret ⟨_, _, rfl, rfl, 2, rfl, freeB_none fun x hx => ?_, ?_⟩
    · simp only [Hp.set, List.mem_cons, List.not_mem_nil, or_false] at hx
      simp at hx
      rcases hx with rfl | rfl | rfl | rfl | rfl | rfl | rfl | rfl <;> rfl
    subst hG
    subst hL
    refine frz_outs (q := q) hq ?_
    have e6 : ¬ 6 = q := by omega
    have e5 : ¬ 5 = q := by omega
    have e4 : ¬ 4 = q := by omega
    have e3 : ¬ 3 = q := by omega
    have e2 : ¬ 2 = q := by omega
    have e1 : ¬ 1 = q := by omega
    have e0 : ¬ 0 = q := by omega
    simp [Hp.set, Hp.get, e0, e1, e2, e3, e4, e5, e6]
end Go.Fz
namespace Go.Fz
open Go.Proofs
set_option maxRecDepth 100000
set_option maxHeartbeats 8000000 in
theorem open_ok (d : DayD) (hs : d.small) (hc : d.check = 0) (f : Nat → Int) (l : List (Nat → Int)) (ho : d.seen.outs = f :: l) :
    Fresh Try.prog 57 [dayV d, .lit (.bool true)] (fun k => .tup [workM d (f :: l) k, iV 0]) (mapE mkV d.seen.E) d.seen.cl := by
  obtain ⟨O, hO⟩ : ∃ O : Ar, O = std := ⟨_, rfl⟩
  have e1 := checkDay_ok d hs
  have e2 := start_ok d hc
  rw [hc] at e1
  refine fresh_of_body tok 3 Try.func57 en57 rfl ⟨dayV_below d, Below.lit, trivial⟩ (mapE_closed _) ?_
  generalize mapE mkV d.seen.E = ME at e2 ⊢
  generalize d.seen.cl = cl at e2 ⊢
  rw [ho] at e2
  have hWW : workM d (f :: l) = fun k => .agg [iV d.hand, iV d.flat, womsV d, lotsV d, cntsV d, .isl (l.length + 1) 8 false (outG d (f :: l)), .mp k] := rfl
  have hbel := outsI_below d (f :: l)
  rw [show outsI d (f :: l) = .isl (l.length + 1) 8 false (outG d (f :: l)) from rfl] at hbel
  rw [hWW] at e2 ⊢
  obtain ⟨L, hL⟩ : ∃ L, l.length = L := ⟨_, rfl⟩
  rw [hL] at e2 hbel ⊢
  generalize outG d (f :: l) = G at e2 hbel ⊢
  refine SW.seqRun tok hO (by cbv <;> rfl) (by trivial) ?_
  refine SW.seq ?_
  refine SW.seqRun tok hO (by cbv <;> rfl) (by trivial) ?_
  refine OpsW.callP e1 (by cbv <;> rfl) ?_
  refine OpsW.run tok hO (by cbv <;> rfl) (by trivial) ?_
  refine SW.seqRun tok hO (by cbv <;> rfl) (by trivial) ?_
  refine SW.condS (by cbv <;> rfl) (fun h1 => ?_) (fun h1 => SW.skip ?_)
  · exfalso
    subst hO; simp [std] at h1
  refine SW.seq ?_
  refine SW.seqRun tok hO (by cbv <;> rfl) (by trivial) ?_
  refine SW.cond (t := false) (by cbv <;> rfl) (SW.skip ?_)
  refine SW.seqRun tok hO (by cbv <;> rfl) (by trivial) ?_
  refine OpsW.callS e2.ent (e2.call _) (by cbv <;> rfl) fun v st' hk => ?_
  obtain ⟨rfl, rfl⟩ := hk
  refine OpsW.run tok hO (by cbv <;> rfl) (by trivial) ?_
  refine SW.seq ?_
  refine SW.seqRun tok hO (by cbv <;> rfl) (by trivial) ?_
  refine SW.condS (by cbv <;> rfl) (fun h2 => ?_) (fun h2 => SW.skip ?_)
  · exfalso
    subst hO; simp [std] at h2
    omega
  refine SW.seqRun tok hO (by cbv <;> rfl) (by trivial) ?_
  refine SW.ret ⟨_, _, rfl, rfl, 2, rfl, by rfl, ?_⟩
  exact NewV.tup (rs := fun k => [.agg [iV d.hand, iV d.flat, womsV d, lotsV d, cntsV d, .isl (L + 1) 8 false G, .mp k], iV 0])
    (.cons (NewV.agg (rs := fun k => [iV d.hand, iV d.flat, womsV d, lotsV d, cntsV d, .isl (L + 1) 8 false G, .mp k]) (.cons (.closed Below.lit) (.cons (.closed Below.lit) (.cons (.closed (womsV_below d)) (.cons (.closed (lotsV_below d)) (.cons (.closed (cntsV_below d)) (.cons (.closed hbel) (.cons .mp .nil)))))))) (.cons (.closed Below.lit) .nil))
set_option maxHeartbeats 8000000 in
theorem open_none (d : DayD) (hs : d.small) (hc : d.check = 0) (ho : d.seen.outs = []) : Pure Try.prog 57 [dayV d, .lit (.bool true)] (.tup [.agg stZ, iV 11]) := by
  obtain ⟨O, hO⟩ : ∃ O : Ar, O = std := ⟨_, rfl⟩
  have e1 := checkDay_ok d hs
  have e2 := start_ok d hc
  rw [hc] at e1
  refine pure_of_body tok 3 Try.func57 en57 rfl ⟨dayV_below d, Below.lit, trivial⟩ (Below.tup (AllB.ok ⟨Below.agg (AllB.ok ⟨Below.lit, Below.lit, Below.lit, Below.lit, Below.lit, Below.lit, Below.lit, trivial⟩), Below.lit, trivial⟩)) ?_
  generalize mapE mkV d.seen.E = ME at e2
  generalize d.seen.cl = cl at e2
  rw [ho] at e2
  refine SW.seqRun tok hO (by cbv <;> rfl) (by trivial) ?_
  refine SW.seq ?_
  refine SW.seqRun tok hO (by cbv <;> rfl) (by trivial) ?_
  refine OpsW.callP e1 (by cbv <;> rfl) ?_
  refine OpsW.run tok hO (by cbv <;> rfl) (by trivial) ?_
  refine SW.seqRun tok hO (by cbv <;> rfl) (by trivial) ?_
  refine SW.condS (by cbv <;> rfl) (fun h1 => ?_) (fun h1 => SW.skip ?_)
  · exfalso
    subst hO; simp [std] at h1
  refine SW.seq ?_
  refine SW.seqRun tok hO (by cbv <;> rfl) (by trivial) ?_
  refine SW.cond (t := false) (by cbv <;> rfl) (SW.skip ?_)
  refine SW.seqRun tok hO (by cbv <;> rfl) (by trivial) ?_
  refine OpsW.callS e2.ent (e2.call _) (by cbv <;> rfl) fun v st' hk => ?_
  obtain ⟨rfl, rfl⟩ := hk
  refine OpsW.run tok hO (by cbv <;> rfl) (by trivial) ?_
  refine SW.seq ?_
  refine SW.seqRun tok hO (by cbv <;> rfl) (by trivial) ?_
  refine SW.condS (by cbv <;> rfl) (fun h2 => ?_) (fun h2 => ?_)
  · refine SW.seqRun tok hO (by cbv <;> rfl) (by trivial) ?_
    exact SW.ret ⟨_, _, rfl, rfl, Eqv.of rfl⟩
  · exfalso
    subst hO; simp [std] at h2
end Go.Fz
namespace Go.Fz
open Go.Proofs
set_option maxRecDepth 100000
section
variable {P : Program} {T : Ti}
def mapDE (T : Ti) (t : TypeId) : Option (TypeId × TypeId) := match T t with
  | some i => match i.desc with
    | .map k e => some (k, e)
    | _ => none
  | none => none
theorem mapDE_ok (hT : TOk P T) {t k e : TypeId} (h : mapDE T t = some (k, e)) : P.underlying t = some (.map k e) := by
  unfold mapDE at h
  split at h
  · rename_i i hi
    split at h
    · rename_i k' e' hd
      cases h
      rw [← hd]; exact (hT t i hi).und
    · cases h
  · cases h
def FalseZ (P : Program) (e : TypeId) : Prop := ∀ w : World, (zeroValue e).run P w = .ok (.bool false) w
theorem mapLook_ok {φ : Fi} {st : St} {w : World} {t kt e : TypeId} {β : Type} [DecidableEq β] {V : β → AV} (K : Maps.Keyed P kt) (F : KeyF P kt V) {b : β} {u : Value} {id clock : Nat} {E : List (β × Nat)} (hr : Rel φ st w) (ha : VR φ (.mp id) u)
    (hu : P.underlying t = some (.map kt e)) (hz : FalseZ P e) (hm : st.h.get id = some (.map (mapE V E) clock)) :
    (Instr.lookup t u (F.den b) false).run P w = .ok (.bool (decide (b ∈ E.map (·.1)))) w := by
  obtain ⟨rfl, hid⟩ := ha.mp_inv
  obtain ⟨lx, hlx⟩ := F.key b
  obtain ⟨ces, hb, hsz, hes⟩ := hr.obj id _ hm
  have hlen : (mapE V E).length = E.length := by simp [mapE]
  rw [hlen] at hsz
  have hent : ∀ (i : Nat) (p : β × Nat), E[i]? = some p → ∃ e, ces[i]? = some e ∧ e.key = F.den p.1 ∧ e.val = .bool true ∧ e.born = p.2 := fun i p hp => by
    obtain ⟨e, h1, h2, h3, h4⟩ := hes i (V p.1, .lit (.bool true), p.2) (by simp [mapE, hp])
    exact ⟨e, h1, F.val φ p.1 _ h2, h3.lit_inv, h4⟩
  have hall : ∀ e ∈ ces.toList, ∃ p, p ∈ E ∧ e.key = F.den p.1 := fun e he => by
    obtain ⟨i, hi, he2⟩ := List.getElem_of_mem he
    have hil : i < E.length := by rw [← hsz]; simpa using hi
    obtain ⟨e', h1, h2, _⟩ := hent i E[i] (List.getElem?_eq_getElem hil)
    have : e' = e := by
      rw [← Array.getElem?_toList, List.getElem?_eq_getElem hi, he2] at h1
      exact (Option.some.inj h1).symm
    subst this
    exact ⟨E[i], List.getElem_mem hil, h2⟩
  have hfind := K.find w hlx ces.toList fun e he => by
    obtain ⟨p, _, h2⟩ := hall e he
    rw [h2]; exact F.key p.1
  have hcheck := K.check w true hlx
  rcases hfind with ⟨hrun, hne⟩ | ⟨j, e0, hrun, hj, hje⟩
  · have hnot : b ∉ E.map (·.1) := fun hin => by
      obtain ⟨p, hp, hpb⟩ := List.mem_map.1 hin
      obtain ⟨i, hi, rfl⟩ := List.getElem_of_mem hp
      obtain ⟨e, h1, h2, _⟩ := hent i E[i] (List.getElem?_eq_getElem hi)
      rw [← Array.getElem?_toList] at h1
      exact hne e (List.mem_of_getElem? h1) (by rw [h2, hpb])
    rw [decide_eq_false hnot]
    simp [Instr.lookup, run_underlying hu, MapKept.run_getObj_map hb, K.check w _ hlx, hrun, hz w, Result.andThen]
  · have hjl : j < E.length := by
      have : j < ces.toList.length := (List.getElem?_eq_some_iff.1 hj).1
      rw [← hsz]; simpa using this
    have hjc : ces[j]? = some e0 := by rw [← Array.getElem?_toList]; exact hj
    obtain ⟨e', k1, k2, k3, k4⟩ := hent j E[j] (List.getElem?_eq_getElem hjl)
    have hee : e' = e0 := by rw [hjc] at k1; exact (Option.some.inj k1).symm
    subst hee
    have hin : b ∈ E.map (·.1) := List.mem_map.2 ⟨E[j], List.getElem_mem hjl, F.inj _ _ (by rw [← k2, hje])⟩
    rw [decide_eq_true hin]
    simp [Instr.lookup, run_underlying hu, MapKept.run_getObj_map hb, K.check w _ hlx, hrun, k3, Result.andThen]
def lookAt (ops : Array Oper) (i : Nat) (f : Fm) : Option (TypeId × AV × AV) := match ops[i]? with
  | none => none
  | some o => match wantA ops f.ts o with
    | some true => match o.op with
      | .lookup t m k false => some (t, Operand.av f.ts m, Operand.av f.ts k)
      | _ => none
    | _ => none
theorem OpsW.mapLook (hT : TOk P T) {rd : Option Nat} {ops : Array Oper} {L : Fm → St → Prop} {f : Fm} {st : St} {i : Nat} {l : List Nat} {t kt e : TypeId} {β : Type} [DecidableEq β] {V : β → AV} (K : Maps.Keyed P kt) (F : KeyF P kt V) (b : β) {kv : AV} {id clock : Nat} {E : List (β × Nat)}
    (hx : lookAt ops i f = some (t, .mp id, kv)) (hkv : Eqv kv (V b)) (hd : mapDE T t = some (kt, e)) (hz : FalseZ P e) (hm : st.h.get id = some (.map (mapE V E) clock))
    (h : OpsW P rd ops l L (putAt ops i f (.sb (decide (b ∈ E.map (·.1))))) st) : OpsW P rd ops (i :: l) L f st := by
  unfold lookAt at hx
  split at hx
  · cases hx
  · rename_i o ho
    split at hx
    · rename_i hw
      split at hx
      · rename_i t' m k hop
        simp only [Option.some.injEq, Prod.mk.injEq] at hx
        obtain ⟨rfl, e2, e3⟩ := hx
        have hput : ∀ v, putAt ops i f v = f.put o.dst v := fun v => by simp [putAt, ho]
        rw [hput] at h
        refine OpsW.value ho hw (fun c hc => by rw [hop] at hc; cases hc) (fun φ w a h2 h3 => ?_) h
        have hρ := opR_of h3.ts
        have a1 := hρ m
        have a2 := hρ k
        rw [e2] at a1; rw [e3] at a2
        have a3 := F.val φ b _ (hkv _ _ a2)
        have hrun := mapLook_ok (w := w) K F (b := b) h2 a1 (mapDE_ok hT hd) hz hm
        rw [← a3] at hrun
        exact ⟨φ, w, _, .inl (by simp [execOp, hop, hrun, Result.andThen]), .sb _, h2, Ext.refl _, Fr.refl _ _ _⟩
      · cases hx
    · cases hx
end
theorem keyed4 : Maps.Keyed Try.prog 4 := Maps.bool_keyed (by kernel_rfl)
def boolKey : KeyF Try.prog 4 AV.sb where
  den b := .bool b
  val φ b u h := h.sb_inv
  key b := by
    cases b <;> exact Option.isSome_iff_exists.1 (by kernel_rfl)
  inj b c h := by simpa using h
theorem falseZ4 : FalseZ Try.prog 4 := fun w => by
  have h : (Try.prog.info? 4).bind (fun t => t.zero) = some (.bool false) := by kernel_rfl
  obtain ⟨ti, h1, h2⟩ := Option.bind_eq_some_iff.1 h
  simp [zeroValue, typeInfo, Sem.run_bind, program, Sem.run, Result.andThen, h1, h2]
end Go.Fz
namespace Go.Fz
open Go.Proofs
set_option maxRecDepth 100000
theorem PickE.effL {P : Program} {T : Ti} (hT : TOk P T) {O : Ar} (hO : O = std) {rd : Option Nat} {ops : Array Oper} {M : List Nat} {K : Fm → St → Prop} {fuel : Nat} {pend pend' : List (Nat × AV)} {listed : Array Bool} {f f' : Fm} {st st' : St} {j : Nat} {cs : List Cond}
    (hd : dropP M j pend = pend') (hR : runO O T ops [j] [] f st = .done cs f' st') (hc : allC cs) (hk : AllP (fun p => LV T ops st'.h f' p.1 p.2) pend') (h : AnyE P T ops M rd K fuel pend' (listed.setIfInBounds j true) f' st') : PickE P T ops M rd K fuel pend listed f st j := by
  obtain ⟨o', v, ho', rfl⟩ := runO_one hR
  exact ⟨o', pend', ho', hd, OpsW.run hT hO (R := .done cs (f.put o'.dst v) st') hR hc ⟨⟨v, rfl⟩, (show PendOk T ops pend' (f.put o'.dst v) st'.h from fun p hp => hk.ok p hp), h⟩⟩
def workA (d : DayD) (L : Nat) (G : Nat → Nat → AV) : List AV := [iV d.hand, iV d.flat, womsV d, lotsV d, cntsV d, .isl L 8 false G, .any]
def tkS (d : DayD) (L : Nat) (G : Nat → Nat → AV) : St := ⟨[(1, .cells none false (workA d L G)), (0, .cells none false (dayC d))], 2⟩
def midK (len : Nat) (l : List (Nat × AV)) (S : St) (e : Exit) (fm : Fm) (st : St) : Prop := e = .normal ∧ ∃ g, fm = ⟨⟨len, g⟩, []⟩ ∧ AllP (fun p => g p.1 = p.2) l ∧ st = S
set_option maxHeartbeats 8000000 in
theorem thicker_a (d : DayD) (w n : Int) (hn : 0 ≤ n ∧ n ≤ 60) (L : Nat) (G : Nat → Nat → AV) (ME : List (AV × AV × Nat)) (cl : Nat) (hG : Below 0 (.isl L 8 false G))
    (e1 : Pure Try.prog 73 [dayV d, iV w] (.lit (.bool true)))
    (e2 : Fresh Try.prog 57 [dayV d, .lit (.bool true)] (fun k => .tup [.agg [iV d.hand, iV d.flat, womsV d, lotsV d, cntsV d, .isl L 8 false G, .mp k], iV 0]) ME cl) (g : Nat → AV) (h : AllP (fun p => g p.1 = p.2) [(1, iV w), (2, iV n), (3, .ptr 0 0)]) :
    SW Try.prog none (nthC 1 (bodyF Try.f23)) (midK 58 [(1, iV w), (2, iV n), (3, .ptr 0 0), (8, .ptr 1 0), (9, iV 0)] (tkS d L G)) ⟨⟨58, g⟩, []⟩ ⟨[(0, .cells none false (dayC d))], 1⟩ := by
  obtain ⟨O, hO⟩ : ∃ O : Ar, O = std := ⟨_, rfl⟩
  obtain ⟨g1, g2, g3, _⟩ := h
  simp only at g1 g2 g3
  rw [← updT_self g1, ← updT_self g2, ← updT_self g3]
  refine SW.ren ?_
  refine SW.runD tok mixed hO (by rfl) (by cbv <;> rfl) (by trivial) ?_
  refine AnyE.many [3, 16] (by cbv <;> rfl) (by rfl) ⟨?_, ?_, trivial⟩
  · refine PickE.callQ e1 (by cbv <;> rfl) (by cbv <;> rfl) ?_ ?_
    · exact (by repeat (first | exact trivial | refine And.intro (by first | exact lv_of hO (by cbv <;> rfl) (by trivial) | (cbv <;> rfl)) ?_))
    refine AnyE.run tok hO (by rfl) (by cbv <;> rfl) (by trivial) ?_
    refine AnyE.dec tok hO (by rfl) (by cbv <;> rfl) (by trivial) (fun h1 => ?_) (fun h1 => ?_)
    rotate_left
    · exfalso; subst hO; simp [std] at h1; omega
    refine AnyE.run tok hO (by rfl) (by cbv <;> rfl) (by trivial) ?_
    refine AnyE.dec tok hO (by rfl) (by cbv <;> rfl) (by trivial) (fun h2 => ?_) (fun h2 => ?_)
    rotate_left
    · exfalso; subst hO; simp [std] at h2; omega
    refine AnyE.run tok hO (by rfl) (by cbv <;> rfl) (by trivial) ?_
    refine AnyE.many [12, 16] (by cbv <;> rfl) (by rfl) ⟨?_, ?_, trivial⟩
    · skip
      refine PickE.callE e2.ent (e2.call _) (by cbv <;> rfl) (by cbv <;> rfl) ?_
      rintro r st' ⟨rfl, rfl⟩
      refine ⟨?_, ?_⟩
      · exact (by repeat (first | exact trivial | refine And.intro (by first | exact lv_of hO (by cbv <;> rfl) (by trivial) | (cbv <;> rfl)) ?_))
      refine AnyE.run tok hO (by rfl) (by cbv <;> rfl) (by trivial) ?_
      refine AnyE.effK tok hO (by cbv <;> rfl) (by cbv <;> rfl) (by trivial) ?_ ?_
      · exact (by repeat (first | exact trivial | refine And.intro (by first | exact lv_of hO (by cbv <;> rfl) (by trivial) | (cbv <;> rfl)) ?_))
      refine AnyE.run tok hO (by rfl) (by cbv <;> rfl) (by trivial) ?_
      refine AnyE.effK tok hO (by cbv <;> rfl) (by cbv <;> rfl) (by trivial) ?_ ?_
      · exact (by repeat (first | exact trivial | refine And.intro (by first | exact lv_of hO (by cbv <;> rfl) (by trivial) | (cbv <;> rfl)) ?_))
      refine AnyE.run tok hO (by rfl) (by cbv <;> rfl) (by trivial) ?_
      refine ⟨tabR [(1, 2)], ⟨⟨58, getT [(1, iV w), (2, iV n), (3, .ptr 0 0), (8, .ptr 1 0), (9, iV 0)]⟩, []⟩, tkS d L G, ?_, rfl, _, rfl, ⟨rfl, rfl, rfl, rfl, rfl, trivial⟩, rfl⟩
      exact WeakR.tab rfl rfl (by simp) (by rfl) (by show 1 ≤ 2; omega) (by rfl) ⟨RenV.closed Below.lit, RenV.closed Below.lit, RenV.ptr (by omega), RenV.ptr (by omega), RenV.closed Below.lit, trivial⟩ ⟨⟨by omega, _, rfl, .cells (.cons (RenV.closed Below.lit) (.cons (RenV.closed Below.lit) (.cons (RenV.closed (womsV_below d)) (.cons (RenV.closed (lotsV_below d)) (.cons (RenV.closed (cntsV_below d)) (.cons (RenV.closed hG) (.cons RenV.any .nil))))))), rfl⟩, ⟨by omega, _, rfl, .cells (RenVs.closed (dayC_below d)), rfl⟩, trivial⟩
    · refine PickE.effL tok hO (by cbv <;> rfl) (by cbv <;> rfl) (by trivial) ?_ ?_
      · exact (by repeat (first | exact trivial | refine And.intro (by first | exact LV.of (lv_of hO (by cbv <;> rfl) (by trivial)) | exact ⟨_, lv_of hO (by cbv <;> rfl) (by trivial), Eqv.lit h1⟩ | exact ⟨_, lv_of hO (by cbv <;> rfl) (by trivial), Eqv.lit h2⟩) ?_))
      refine AnyE.run tok hO (by rfl) (by cbv <;> rfl) (by trivial) ?_
      refine AnyE.many [12] (by cbv <;> rfl) (by rfl) ⟨?_, trivial⟩
      refine PickE.callE e2.ent (e2.call _) (by cbv <;> rfl) (by cbv <;> rfl) ?_
      rintro r st' ⟨rfl, rfl⟩
      refine ⟨?_, ?_⟩
      · exact (by repeat (first | exact trivial | refine And.intro (by first | exact lv_of hO (by cbv <;> rfl) (by trivial) | (cbv <;> rfl)) ?_))
      refine AnyE.run tok hO (by rfl) (by cbv <;> rfl) (by trivial) ?_
      refine AnyE.effK tok hO (by cbv <;> rfl) (by cbv <;> rfl) (by trivial) ?_ ?_
      · exact (by repeat (first | exact trivial | refine And.intro (by first | exact lv_of hO (by cbv <;> rfl) (by trivial) | (cbv <;> rfl)) ?_))
      refine AnyE.run tok hO (by rfl) (by cbv <;> rfl) (by trivial) ?_
      refine ⟨tabR [(1, 1)], ⟨⟨58, getT [(1, iV w), (2, iV n), (3, .ptr 0 0), (8, .ptr 1 0), (9, iV 0)]⟩, []⟩, tkS d L G, ?_, rfl, _, rfl, ⟨rfl, rfl, rfl, rfl, rfl, trivial⟩, rfl⟩
      exact WeakR.tab rfl rfl (by simp) (by rfl) (by show 1 ≤ 2; omega) (by rfl) ⟨RenV.closed Below.lit, RenV.closed Below.lit, RenV.ptr (by omega), RenV.ptr (by omega), RenV.closed Below.lit, trivial⟩ ⟨⟨by omega, _, rfl, .cells (.cons (RenV.closed Below.lit) (.cons (RenV.closed Below.lit) (.cons (RenV.closed (womsV_below d)) (.cons (RenV.closed (lotsV_below d)) (.cons (RenV.closed (cntsV_below d)) (.cons (RenV.closed hG) (.cons RenV.any .nil))))))), rfl⟩, ⟨by omega, _, rfl, .cells (RenVs.closed (dayC_below d)), rfl⟩, trivial⟩
  · refine PickE.eff tok hO (by cbv <;> rfl) (by cbv <;> rfl) (by trivial) ?_ ?_
    · exact (by repeat (first | exact trivial | refine And.intro (by first | exact lv_of hO (by cbv <;> rfl) (by trivial) | (cbv <;> rfl)) ?_))
    refine AnyE.run tok hO (by rfl) (by cbv <;> rfl) (by trivial) ?_
    refine AnyE.many [3] (by cbv <;> rfl) (by rfl) ⟨?_, trivial⟩
    refine PickE.callQ e1 (by cbv <;> rfl) (by cbv <;> rfl) ?_ ?_
    · exact (by repeat (first | exact trivial | refine And.intro (by first | exact lv_of hO (by cbv <;> rfl) (by trivial) | (cbv <;> rfl)) ?_))
    refine AnyE.run tok hO (by rfl) (by cbv <;> rfl) (by trivial) ?_
    refine AnyE.dec tok hO (by rfl) (by cbv <;> rfl) (by trivial) (fun h1 => ?_) (fun h1 => ?_)
    rotate_left
    · exfalso; subst hO; simp [std] at h1; omega
    refine AnyE.run tok hO (by rfl) (by cbv <;> rfl) (by trivial) ?_
    refine AnyE.dec tok hO (by rfl) (by cbv <;> rfl) (by trivial) (fun h2 => ?_) (fun h2 => ?_)
    rotate_left
    · exfalso; subst hO; simp [std] at h2; omega
    refine AnyE.run tok hO (by rfl) (by cbv <;> rfl) (by trivial) ?_
    refine AnyE.many [12] (by cbv <;> rfl) (by rfl) ⟨?_, trivial⟩
    refine PickE.callE e2.ent (e2.call _) (by cbv <;> rfl) (by cbv <;> rfl) ?_
    rintro r st' ⟨rfl, rfl⟩
    refine ⟨?_, ?_⟩
    · exact (by repeat (first | exact trivial | refine And.intro (by first | exact lv_of hO (by cbv <;> rfl) (by trivial) | (cbv <;> rfl)) ?_))
    refine AnyE.run tok hO (by rfl) (by cbv <;> rfl) (by trivial) ?_
    refine AnyE.effK tok hO (by cbv <;> rfl) (by cbv <;> rfl) (by trivial) ?_ ?_
    · exact (by repeat (first | exact trivial | refine And.intro (by first | exact lv_of hO (by cbv <;> rfl) (by trivial) | (cbv <;> rfl)) ?_))
    refine AnyE.run tok hO (by rfl) (by cbv <;> rfl) (by trivial) ?_
    refine ⟨tabR [(1, 1)], ⟨⟨58, getT [(1, iV w), (2, iV n), (3, .ptr 0 0), (8, .ptr 1 0), (9, iV 0)]⟩, []⟩, tkS d L G, ?_, rfl, _, rfl, ⟨rfl, rfl, rfl, rfl, rfl, trivial⟩, rfl⟩
    exact WeakR.tab rfl rfl (by simp) (by rfl) (by show 1 ≤ 2; omega) (by rfl) ⟨RenV.closed Below.lit, RenV.closed Below.lit, RenV.ptr (by omega), RenV.ptr (by omega), RenV.closed Below.lit, trivial⟩ ⟨⟨by omega, _, rfl, .cells (.cons (RenV.closed Below.lit) (.cons (RenV.closed Below.lit) (.cons (RenV.closed (womsV_below d)) (.cons (RenV.closed (lotsV_below d)) (.cons (RenV.closed (cntsV_below d)) (.cons (RenV.closed hG) (.cons RenV.any .nil))))))), rfl⟩, ⟨by omega, _, rfl, .cells (RenVs.closed (dayC_below d)), rfl⟩, trivial⟩
end Go.Fz
namespace Go.Fz
variable {P : Program} {T : Ti}
def ObjBelowM (n : Nat) : AObj → Prop
  | .map es _ => ∀ x ∈ es, Below n x.1 ∧ Below n x.2.1
  | .iter mid _ _ _ => mid < n
  | o => ObjBelow n o
theorem ObjR.belowM {φ : Fi} {w : World} {id n : Nat} {o : AObj} (hb : ObjBelowM n o) (h : ObjR φ w id o) : ObjR (cutN φ n) w id o := by
  cases o with
  | map es clock =>
    obtain ⟨ces, h1, h2, h3⟩ := h
    exact ⟨ces, h1, h2, fun i x hx => by
      obtain ⟨e, k1, k2, k3, k4⟩ := h3 i x hx
      obtain ⟨b1, b2⟩ := hb x (List.mem_of_getElem? hx)
      exact ⟨e, k1, b1 _ _ k2, b2 _ _ k3, k4⟩⟩
  | cells fm ro cs => exact ObjR.below (o := .cells fm ro cs) hb h
  | loop r => exact ObjR.below (o := .loop r) hb h
  | dfr => exact h
  | iter mid b c d => exact ⟨h.1, h.2.1, hb⟩
structure WeakM (n : Nat) (f1 : Fm) (st1 : St) (f2 : Fm) (st2 : St) : Prop where
  len : f2.ts.len = f1.ts.len
  dm : f2.dm = f1.dm
  dmlt : ∀ id ∈ f2.dm, id < st2.n
  get : ∀ i, f2.ts.get i = .any ∨ (f2.ts.get i = f1.ts.get i ∧ (st2.n = st1.n ∨ Below st2.n (f1.ts.get i)))
  lo : n ≤ st2.n
  hi : st2.n ≤ st1.n
  obj : ∀ id o, st2.h.get id = some o → st1.h.get id = some o ∧ id < st2.n ∧ (st2.n = st1.n ∨ ObjBelowM st2.n o)
theorem WeakM.ok {n : Nat} {f1 f2 : Fm} {st1 st2 : St} (hw : WeakM n f1 st1 f2 st2) {φ : Fi} {w : World} {a : Act} (hr : Rel φ st1 w) (ha : ActR φ f1 a) :
    Rel (cutN φ st2.n) st2 w ∧ ActR (cutN φ st2.n) f2 a ∧ Fr φ st1 w (cutN φ st2.n) st2 w := by
  have hsame : st2.n = st1.n → cutN φ st2.n = φ := fun h => by cases φ; simp only [cutN, h, ← hr.n]
  refine ⟨⟨rfl, fun id o h => (hw.obj id o h).2.1, fun id o h => hr.blk id o (hw.obj id o h).1, fun id o h => ?_, fun i j oi oj hi hj => hr.sep i j oi oj (hw.obj i oi hi).1 (hw.obj j oj hj).1, fun id o f h hf => ?_, fun b c hb => ?_⟩, ⟨⟨?_, fun i => ?_⟩, ?_, hw.dmlt⟩,
    ⟨rfl, rfl, rfl, Nat.le_refl _, fun _ _ _ => rfl, fun k ⟨id, o, h, ho, hb⟩ => .inl ⟨id, o, (hw.obj id o h).1, ho, hb⟩, fun b c hb => .inl hb⟩⟩
  · obtain ⟨h1, h2, h3⟩ := hw.obj id o h
    rcases h3 with h3 | h3
    · rw [hsame h3]; exact hr.obj id o h1
    · exact (hr.obj id o h1).belowM h3
  · obtain ⟨h1, h2, h3⟩ := hw.obj id o h
    rcases h3 with h3 | h3
    · rw [h3]; exact hr.fam id o f h1 hf
    · cases o with
      | cells fm ro cs => exact h3.2 f hf
      | loop r => cases hf
      | dfr => cases hf
      | map es clock => cases hf
      | iter a b c d => cases hf
  · obtain ⟨h1, h2, h3⟩ := hr.froz b c hb
    exact ⟨h1, h2, fun id o h => h3 id o (hw.obj id o h).1⟩
  · rw [hw.len]; exact ha.ts.size
  · rcases hw.get i with h | ⟨h, h2⟩
    · rw [h]; exact .any _
    · rw [h]
      rcases h2 with h2 | h2
      · rw [hsame h2]; exact ha.ts.get i
      · exact h2 _ _ (ha.ts.get i)
  · rw [hw.dm]; exact ha.dm
theorem SW.weakM {rd : Option Nat} {c : Code} {Q : Exit → Fm → St → Prop} {f : Fm} {st : St} (h : SW P rd c (fun e f1 st1 => Q e f1 st1 ∨ ∃ f2 st2, WeakM st.n f1 st1 f2 st2 ∧ Q e f2 st2) f st) : SW P rd c Q f st := by
  intro φ w a n h1 h2 h3
  refine wpIn_mono (h φ w a n h1 h2 h3) fun e a' w' hl => ?_
  obtain ⟨f1, st1, φ1, hq, he, hr, ha, hf⟩ := hl
  rcases hq with hq | ⟨f2, st2, hw, hq⟩
  · exact ⟨f1, st1, φ1, hq, he, hr, ha, hf⟩
  · obtain ⟨k1, k2, k3⟩ := hw.ok hr ha
    refine ⟨f2, st2, cutN φ1 st2.n, hq, ⟨?_, he.f, he.z⟩, k1, k2, hf.trans k3⟩
    rw [h2.n]; exact hw.lo
theorem SW.loopM {α : Type} {rd : Option Nat} {c : Code} {Q : Exit → Fm → St → Prop} {f : Fm} {st : St} (F : α → Fm) (S : α → St) (m : α → Nat) (Inv : α → Prop) (x0 : α) (hn : ∀ x, (S x).n = st.n) (h0 : Inv x0) (hw : Weak st.n f st (F x0) (S x0))
    (hround : ∀ x, Inv x → SW P rd c (thenQ (fun f' st' => ∃ x', m x' < m x ∧ Inv x' ∧ WeakM st.n f' st' (F x') (S x')) Q) (F x) (S x)) : SW P rd (.loop c) Q f st := by
  refine SW.pre hw (SW.loop (fun k f st => ∃ x, Inv x ∧ m x = k ∧ f = F x ∧ st = S x) (m x0) ⟨x0, h0, rfl, rfl, rfl⟩ fun k f' st' ⟨x, hx, hk, hf, hs⟩ => ?_)
  subst hf; subst hs; subst hk
  refine SW.weakM ((hround x hx).mono fun e f1 st1 hq => ?_)
  cases e with
  | normal =>
    obtain ⟨x', h1, h2, h3⟩ := hq
    exact .inr ⟨F x', S x', by rw [hn]; exact h3, m x', h1, x', h2, rfl, rfl, rfl⟩
  | _ => exact .inl hq
def AllOM (q : Prop) (n : Nat) (h1 : Hp) : Hp → Prop
  | [] => True
  | x :: l => (h1.get x.1 = some x.2 ∧ x.1 < n ∧ (q ∨ ObjBelowM n x.2)) ∧ AllOM q n h1 l
theorem AllOM.ok {q : Prop} {n : Nat} {h1 : Hp} : ∀ {h : Hp}, AllOM q n h1 h → ∀ x ∈ h, h1.get x.1 = some x.2 ∧ x.1 < n ∧ (q ∨ ObjBelowM n x.2)
  | [], _, x, h => by cases h
  | y :: l, h, x, hx => by
    rcases List.mem_cons.1 hx with rfl | hx
    · exact h.1
    · exact h.2.ok x hx
theorem WeakM.by {n : Nat} {f1 : Fm} {st1 : St} {l : List (Nat × AV)} {len : Nat} {dm : List Nat} {h2 : Hp} {n2 : Nat} (e1 : len = f1.ts.len) (e2 : dm = f1.dm) (e3 : ∀ id ∈ dm, id < n2) (e5 : n ≤ n2) (e6 : n2 ≤ st1.n)
    (e4 : AllW (n2 = st1.n) n2 f1.ts.get l) (e7 : AllOM (n2 = st1.n) n2 st1.h h2) : WeakM n f1 st1 ⟨⟨len, getT l⟩, dm⟩ ⟨h2, n2⟩ :=
  ⟨e1, e2, e3, getT_weak l e4.ok, e5, e6, Hp.get_all _ e7.ok⟩
end Go.Fz
namespace Go.Fz
open Go.Proofs
set_option maxRecDepth 100000
def outX (nw nl : Nat) (A B C D : Nat → Nat → Int) (a b c e : Nat → Int) (i k : Nat) : AV := match k with
  | 0 => intsV nw false (A i)
  | 1 => intsV nl false (B i)
  | 2 => intsV nw false (C i)
  | 3 => intsV nw false (D i)
  | 4 => iV (a i)
  | 5 => iV (b i)
  | 6 => iV (c i)
  | _ => iV (e i)
def nthF (l : List (Nat → Int)) (i : Nat) : Nat → Int := l.getD i (fun _ => 0)
theorem outG_X (d : DayD) (l : List (Nat → Int)) : outG d l = outX d.nw d.nl (fun i => nthF l i) (fun i j => nthF l i (d.nw + j)) (fun i => d.bun (truF d (nthF l i))) (fun i => d.lef (truF d (nthF l i)))
    (fun i => (d.tally (truF d (nthF l i))).hands) (fun i => (d.tally (truF d (nthF l i))).loose) (fun i => (d.tally (truF d (nthF l i))).flats) (fun i => (d.tally (truF d (nthF l i))).spare) := by
  funext i k
  match k with
  | 0 | 1 | 2 | 3 | 4 | 5 | 6 => rfl
  | _ + 7 => rfl
def bmP (b : Nat → Bool) : Nat → List (Bool × Nat) × Nat
  | 0 => ([], 0)
  | i + 1 => (updE (bmP b i).1 (b i) (bmP b i).2, updC (bmP b i).1 (b i) (bmP b i).2)
theorem updE_mem {β : Type} [DecidableEq β] {E : List (β × Nat)} {x b : β} {c : Nat} : x ∈ (updE E b c).map (·.1) ↔ x ∈ E.map (·.1) ∨ x = b := by
  unfold updE
  split
  · rename_i h
    exact ⟨.inl, fun h2 => h2.elim id fun e => by rw [e]; exact h⟩
  · simp
def someB (b : Nat → Bool) (x : Bool) (n : Nat) : Bool := decide (x ∈ (bmP b n).1.map (·.1))
def verdict (b : Nat → Bool) (n : Nat) : Int := if someB b false n = false then 1 else if someB b true n = false then 2 else 3
set_option maxHeartbeats 16000000 in
theorem thicker_core (d : DayD) (w : Nat) (n : Int) (hw : w < d.nw) (hn : 0 ≤ n ∧ n ≤ 60) (L : Nat) (A B C D : Nat → Nat → Int) (a b c e : Nat → Int) (ME : List (AV × AV × Nat)) (cl : Nat) (hL : L < 100000)
    (e1 : Pure Try.prog 73 [dayV d, iV w] (.lit (.bool true)))
    (e2 : Fresh Try.prog 57 [dayV d, .lit (.bool true)] (fun k => .tup [.agg [iV d.hand, iV d.flat, womsV d, lotsV d, cntsV d, .isl L 8 false (outX d.nw d.nl A B C D a b c e), .mp k], iV 0]) ME cl) :
    Pure Try.prog 23 [dayV d, iV w, iV n] (.tup [iV (verdict (fun i => decide (n < A i w)) L), iV 0]) := by
  obtain ⟨O, hO⟩ : ∃ O : Ar, O = std := ⟨_, rfl⟩
  have hnat : ∀ i : Nat, O.nat (Int.ofNat i) = i := fun i => by subst hO; rfl
  have hGb : Below 0 (.isl L 8 false (outX d.nw d.nl A B C D a b c e)) := Below.isl fun i k _ _ => by
    unfold outX
    split <;> first | exact intsV_below _ _ _ | exact Below.lit
  refine pure_of_body tok 3 Try.func23 en23 rfl ⟨dayV_below d, Below.lit, Below.lit, trivial⟩ (Below.tup (AllB.ok ⟨Below.lit, Below.lit, trivial⟩)) ?_
  refine SW.seqRun tok hO (by cbv <;> rfl) (by trivial) ?_
  refine SW.seq ((thicker_a d w n hn L _ ME cl hGb e1 e2 _ ⟨rfl, rfl, rfl, trivial⟩).mono fun e f st hm => ?_)
  obtain ⟨rfl, g, rfl, ⟨g1, g2, g3, g8, g9, _⟩, rfl⟩ := hm
  simp only at g1 g2 g3 g8 g9
  rw [← updT_self g1, ← updT_self g2, ← updT_self g8, ← updT_self g9]
  clear e2 e1 g3
  show SW _ _ _ _ _ _
  refine SW.seq ?_
  refine SW.seqRun tok hO (by cbv <;> rfl) (by trivial) ?_
  refine SW.condS (by cbv <;> rfl) (fun h1 => ?_) (fun h1 => SW.skip ?_)
  · exfalso
    subst hO; simp [std] at h1
  refine SW.seq (SW.runN tok hO 0 (by cbv <;> rfl) (by trivial) ?_)
  refine OpsW.mkMap (by rfl) ?_
  refine OpsW.run tok hO (by cbv <;> rfl) (by trivial) ?_
  refine SW.seq ?_
  refine SW.seqRun tok hO (by cbv <;> rfl) (by trivial) ?_
  refine (SW.block (SW.loopM (fun i : Nat => ⟨⟨58, getT [(1, iV w), (2, iV n), (10, .mp 2), (34, .isl L 8 false (outX d.nw d.nl A B C D a b c e)), (35, iV L), (36, iV i)]⟩, []⟩) (fun i => ⟨[(2, .map (mapE AV.sb (bmP (fun i => decide (n < A i w)) i).1) (bmP (fun i => decide (n < A i w)) i).2)], 3⟩) (fun i => L - i) (fun i => i ≤ L) 0
    (fun _ => rfl) (Nat.zero_le _) (Weak.by rfl rfl (by simp) (Nat.le_refl _) (Nat.le_refl _) ⟨⟨rfl, .inl rfl⟩, ⟨rfl, .inl rfl⟩, ⟨rfl, .inl rfl⟩, ⟨rfl, .inl rfl⟩, ⟨rfl, .inl rfl⟩, ⟨rfl, .inl rfl⟩, trivial⟩ ⟨⟨rfl, by show 2 < 3; omega, .inl rfl⟩, trivial⟩) fun i hi => ?_))
  obtain ⟨E, hE⟩ : ∃ E, (bmP (fun i => decide (n < A i w)) i).1 = E := ⟨_, rfl⟩
  obtain ⟨c2, hc2⟩ : ∃ E, (bmP (fun i => decide (n < A i w)) i).2 = E := ⟨_, rfl⟩
  rw [hE, hc2]
  obtain ⟨ME2, hME2⟩ : ∃ m, mapE AV.sb E = m := ⟨_, rfl⟩
  rw [hME2]
  refine SW.seqRun tok hO (by cbv <;> rfl) (by trivial) ?_
  refine SW.seq (SW.condS (by cbv <;> rfl) (fun h => SW.skip ?_) (fun h => SW.exit ?_))
  · have hlt : i < L := by subst hO; simpa [std] using h
    have hi0 : (0 : Int) ≤ Int.ofNat i := Int.natCast_nonneg i
    have hw0 : (0 : Int) ≤ Int.ofNat w := Int.natCast_nonneg w
    refine SW.seq (SW.block ?_)
    refine SW.seqRun tok hO (by cbv <;> rfl) ?_ ?_
    · exact ⟨hi0, Int.ofNat_lt.2 hlt⟩
    refine SW.runN tok hO 9 (by cbv <;> rfl) ?_ ?_
    · exact ⟨hw0, Int.ofNat_lt.2 hw⟩
    refine OpsW.mapUpd tok keyed4 boolKey (b := O.cmp .gtr (A (O.nat (Int.ofNat i)) (O.nat (Int.ofNat w))) n) (id := 2) (E := E) (clock := c2) (by cbv <;> rfl) (by kernel_rfl) (by rw [hME2]; rfl) ?_
    have hb : O.cmp .gtr (A (O.nat (Int.ofNat i)) (O.nat (Int.ofNat w))) n = decide (n < A i w) := by
      rw [hnat, hnat]; subst hO; simp [std]
    rw [hb]
    obtain ⟨ME3, hME3⟩ : ∃ m, mapE AV.sb (updE E (decide (n < A i w)) c2) = m := ⟨_, rfl⟩
    obtain ⟨c3, hc3⟩ : ∃ m, updC E (decide (n < A i w)) c2 = m := ⟨_, rfl⟩
    rw [hME3, hc3]
    refine OpsW.nil ?_
    refine SW.run tok hO (by cbv <;> rfl) (by trivial) ?_
    refine ⟨i + 1, by omega, hlt, ?_⟩
    have hs : (bmP (fun i => decide (n < A i w)) (i + 1)) = (updE E (decide (n < A i w)) c2, updC E (decide (n < A i w)) c2) := by rw [← hE, ← hc2]; rfl
    rw [hs]
    simp only
    rw [hME3, hc3]
    refine WeakM.by rfl rfl (fun _ h => nomatch h) (Nat.le_refl _) (by show 3 ≤ 4; omega) ⟨⟨rfl, .inr Below.lit⟩, ⟨rfl, .inr Below.lit⟩, ⟨rfl, .inr (Below.mp (by omega))⟩, ⟨rfl, .inr (Below.up (m := 0) hGb)⟩, ⟨rfl, .inr Below.lit⟩, ⟨inc_ok hO (by omega), .inr Below.lit⟩, trivial⟩ ⟨⟨rfl, by show 2 < 3; omega, .inr ?_⟩, trivial⟩
    rw [← hME3]
    intro x hx
    obtain ⟨p, _, rfl⟩ := List.mem_map.1 hx
    exact ⟨Below.sb, Below.lit⟩
  have hge : i = L := by
    have : L ≤ i := by subst hO; simpa [std] using h
    omega
  subst hge
  refine SW.seq (SW.block ?_)
  refine SW.seq (SW.runN tok hO 1 (by cbv <;> rfl) (by trivial) ?_)
  refine OpsW.mapLook tok keyed4 boolKey false (id := 2) (E := E) (clock := c2) (by cbv <;> rfl) (Eqv.bool rfl) (by kernel_rfl) falseZ4 (by rw [hME2]; rfl) ?_
  have hv : verdict (fun j => decide (n < A j w)) i = if decide (false ∈ E.map (·.1)) = false then 1 else if decide (true ∈ E.map (·.1)) = false then 2 else 3 := by
    unfold verdict someB; rw [hE]
  rw [hv]
  obtain ⟨sF, hF⟩ : ∃ s, decide (false ∈ E.map (·.1)) = s := ⟨_, rfl⟩
  rw [hF]
  refine OpsW.run tok hO (by cbv <;> rfl) (by trivial) ?_
  refine SW.condS (by cbv <;> rfl) (fun h2 => ?_) (fun h2 => ?_)
  · have : sF = false := by subst hO; simpa [std] using h2
    subst this
    refine SW.seqRun tok hO (by cbv <;> rfl) (by trivial) ?_
    exact SW.ret ⟨_, _, rfl, rfl, Eqv.of rfl⟩
  have : sF = true := by subst hO; simpa [std] using h2
  subst this
  refine SW.seq (SW.runN tok hO 1 (by cbv <;> rfl) (by trivial) ?_)
  refine OpsW.mapLook tok keyed4 boolKey true (id := 2) (E := E) (clock := c2) (by cbv <;> rfl) (Eqv.bool rfl) (by kernel_rfl) falseZ4 (by rw [hME2]; rfl) ?_
  obtain ⟨sT, hT⟩ : ∃ s, decide (true ∈ E.map (·.1)) = s := ⟨_, rfl⟩
  rw [hT]
  refine OpsW.run tok hO (by cbv <;> rfl) (by trivial) ?_
  refine SW.condS (by cbv <;> rfl) (fun h3 => ?_) (fun h3 => SW.skip ?_)
  · have : sT = false := by subst hO; simpa [std] using h3
    subst this
    refine SW.seqRun tok hO (by cbv <;> rfl) (by trivial) ?_
    exact SW.ret ⟨_, _, rfl, rfl, Eqv.of rfl⟩
  have : sT = true := by subst hO; simpa [std] using h3
  subst this
  refine SW.seqRun tok hO (by cbv <;> rfl) (by trivial) ?_
  exact SW.ret ⟨_, _, rfl, rfl, Eqv.of rfl⟩
end Go.Fz
namespace Go.Fz
open Go.Proofs
set_option maxRecDepth 100000
def tkZ (d : DayD) : St := ⟨[(1, .cells none false stZ), (0, .cells none false (dayC d))], 2⟩
set_option maxHeartbeats 8000000 in
theorem thicker_z (d : DayD) (w n : Int) (hn : 0 ≤ n ∧ n ≤ 60)
    (e1 : Pure Try.prog 73 [dayV d, iV w] (.lit (.bool true)))
    (e2 : Pure Try.prog 57 [dayV d, .lit (.bool true)] (.tup [.agg stZ, iV 11])) (g : Nat → AV) (h : AllP (fun p => g p.1 = p.2) [(1, iV w), (2, iV n), (3, .ptr 0 0)]) :
    SW Try.prog none (nthC 1 (bodyF Try.f23)) (midK 58 [(1, iV w), (2, iV n), (3, .ptr 0 0), (8, .ptr 1 0), (9, iV 11)] (tkZ d)) ⟨⟨58, g⟩, []⟩ ⟨[(0, .cells none false (dayC d))], 1⟩ := by
  obtain ⟨O, hO⟩ : ∃ O : Ar, O = std := ⟨_, rfl⟩
  obtain ⟨g1, g2, g3, _⟩ := h
  simp only at g1 g2 g3
  rw [← updT_self g1, ← updT_self g2, ← updT_self g3]
  refine SW.ren ?_
  refine SW.runD tok mixed hO (by rfl) (by cbv <;> rfl) (by trivial) ?_
  refine AnyE.many [3, 16] (by cbv <;> rfl) (by rfl) ⟨?_, ?_, trivial⟩
  · refine PickE.callQ e1 (by cbv <;> rfl) (by cbv <;> rfl) ?_ ?_
    · exact (by repeat (first | exact trivial | refine And.intro (by first | exact lv_of hO (by cbv <;> rfl) (by trivial) | (cbv <;> rfl)) ?_))
    refine AnyE.run tok hO (by rfl) (by cbv <;> rfl) (by trivial) ?_
    refine AnyE.dec tok hO (by rfl) (by cbv <;> rfl) (by trivial) (fun h1 => ?_) (fun h1 => ?_)
    rotate_left
    · exfalso; subst hO; simp [std] at h1; omega
    refine AnyE.run tok hO (by rfl) (by cbv <;> rfl) (by trivial) ?_
    refine AnyE.dec tok hO (by rfl) (by cbv <;> rfl) (by trivial) (fun h2 => ?_) (fun h2 => ?_)
    rotate_left
    · exfalso; subst hO; simp [std] at h2; omega
    refine AnyE.run tok hO (by rfl) (by cbv <;> rfl) (by trivial) ?_
    refine AnyE.many [12, 16] (by cbv <;> rfl) (by rfl) ⟨?_, ?_, trivial⟩
    · skip
      refine PickE.callQ e2 (by cbv <;> rfl) (by cbv <;> rfl) ?_ ?_
      · exact (by repeat (first | exact trivial | refine And.intro (by first | exact lv_of hO (by cbv <;> rfl) (by trivial) | (cbv <;> rfl)) ?_))
      refine AnyE.run tok hO (by rfl) (by cbv <;> rfl) (by trivial) ?_
      refine AnyE.effK tok hO (by cbv <;> rfl) (by cbv <;> rfl) (by trivial) ?_ ?_
      · exact (by repeat (first | exact trivial | refine And.intro (by first | exact lv_of hO (by cbv <;> rfl) (by trivial) | (cbv <;> rfl)) ?_))
      refine AnyE.run tok hO (by rfl) (by cbv <;> rfl) (by trivial) ?_
      refine AnyE.effK tok hO (by cbv <;> rfl) (by cbv <;> rfl) (by trivial) ?_ ?_
      · exact (by repeat (first | exact trivial | refine And.intro (by first | exact lv_of hO (by cbv <;> rfl) (by trivial) | (cbv <;> rfl)) ?_))
      refine AnyE.run tok hO (by rfl) (by cbv <;> rfl) (by trivial) ?_
      refine ⟨tabR [(1, 1)], ⟨⟨58, getT [(1, iV w), (2, iV n), (3, .ptr 0 0), (8, .ptr 1 0), (9, iV 11)]⟩, []⟩, tkZ d, ?_, rfl, _, rfl, ⟨rfl, rfl, rfl, rfl, rfl, trivial⟩, rfl⟩
      exact WeakR.tab rfl rfl (by simp) (by rfl) (by show 1 ≤ 2; omega) (by rfl) ⟨RenV.closed Below.lit, RenV.closed Below.lit, RenV.ptr (by omega), RenV.ptr (by omega), RenV.closed Below.lit, trivial⟩ ⟨⟨by omega, _, rfl, .cells (RenVs.closed (AllB.ok ⟨Below.lit, Below.lit, Below.lit, Below.lit, Below.lit, Below.lit, Below.lit, trivial⟩)), rfl⟩, ⟨by omega, _, rfl, .cells (RenVs.closed (dayC_below d)), rfl⟩, trivial⟩
    · refine PickE.effL tok hO (by cbv <;> rfl) (by cbv <;> rfl) (by trivial) ?_ ?_
      · exact (by repeat (first | exact trivial | refine And.intro (by first | exact LV.of (lv_of hO (by cbv <;> rfl) (by trivial)) | exact ⟨_, lv_of hO (by cbv <;> rfl) (by trivial), Eqv.lit h1⟩ | exact ⟨_, lv_of hO (by cbv <;> rfl) (by trivial), Eqv.lit h2⟩) ?_))
      refine AnyE.run tok hO (by rfl) (by cbv <;> rfl) (by trivial) ?_
      refine AnyE.many [12] (by cbv <;> rfl) (by rfl) ⟨?_, trivial⟩
      refine PickE.callQ e2 (by cbv <;> rfl) (by cbv <;> rfl) ?_ ?_
      · exact (by repeat (first | exact trivial | refine And.intro (by first | exact lv_of hO (by cbv <;> rfl) (by trivial) | (cbv <;> rfl)) ?_))
      refine AnyE.run tok hO (by rfl) (by cbv <;> rfl) (by trivial) ?_
      refine AnyE.effK tok hO (by cbv <;> rfl) (by cbv <;> rfl) (by trivial) ?_ ?_
      · exact (by repeat (first | exact trivial | refine And.intro (by first | exact lv_of hO (by cbv <;> rfl) (by trivial) | (cbv <;> rfl)) ?_))
      refine AnyE.run tok hO (by rfl) (by cbv <;> rfl) (by trivial) ?_
      refine ⟨tabR [(1, 1)], ⟨⟨58, getT [(1, iV w), (2, iV n), (3, .ptr 0 0), (8, .ptr 1 0), (9, iV 11)]⟩, []⟩, tkZ d, ?_, rfl, _, rfl, ⟨rfl, rfl, rfl, rfl, rfl, trivial⟩, rfl⟩
      exact WeakR.tab rfl rfl (by simp) (by rfl) (by show 1 ≤ 2; omega) (by rfl) ⟨RenV.closed Below.lit, RenV.closed Below.lit, RenV.ptr (by omega), RenV.ptr (by omega), RenV.closed Below.lit, trivial⟩ ⟨⟨by omega, _, rfl, .cells (RenVs.closed (AllB.ok ⟨Below.lit, Below.lit, Below.lit, Below.lit, Below.lit, Below.lit, Below.lit, trivial⟩)), rfl⟩, ⟨by omega, _, rfl, .cells (RenVs.closed (dayC_below d)), rfl⟩, trivial⟩
  · refine PickE.eff tok hO (by cbv <;> rfl) (by cbv <;> rfl) (by trivial) ?_ ?_
    · exact (by repeat (first | exact trivial | refine And.intro (by first | exact lv_of hO (by cbv <;> rfl) (by trivial) | (cbv <;> rfl)) ?_))
    refine AnyE.run tok hO (by rfl) (by cbv <;> rfl) (by trivial) ?_
    refine AnyE.many [3] (by cbv <;> rfl) (by rfl) ⟨?_, trivial⟩
    refine PickE.callQ e1 (by cbv <;> rfl) (by cbv <;> rfl) ?_ ?_
    · exact (by repeat (first | exact trivial | refine And.intro (by first | exact lv_of hO (by cbv <;> rfl) (by trivial) | (cbv <;> rfl)) ?_))
    refine AnyE.run tok hO (by rfl) (by cbv <;> rfl) (by trivial) ?_
    refine AnyE.dec tok hO (by rfl) (by cbv <;> rfl) (by trivial) (fun h1 => ?_) (fun h1 => ?_)
    rotate_left
    · exfalso; subst hO; simp [std] at h1; omega
    refine AnyE.run tok hO (by rfl) (by cbv <;> rfl) (by trivial) ?_
    refine AnyE.dec tok hO (by rfl) (by cbv <;> rfl) (by trivial) (fun h2 => ?_) (fun h2 => ?_)
    rotate_left
    · exfalso; subst hO; simp [std] at h2; omega
    refine AnyE.run tok hO (by rfl) (by cbv <;> rfl) (by trivial) ?_
    refine AnyE.many [12] (by cbv <;> rfl) (by rfl) ⟨?_, trivial⟩
    refine PickE.callQ e2 (by cbv <;> rfl) (by cbv <;> rfl) ?_ ?_
    · exact (by repeat (first | exact trivial | refine And.intro (by first | exact lv_of hO (by cbv <;> rfl) (by trivial) | (cbv <;> rfl)) ?_))
    refine AnyE.run tok hO (by rfl) (by cbv <;> rfl) (by trivial) ?_
    refine AnyE.effK tok hO (by cbv <;> rfl) (by cbv <;> rfl) (by trivial) ?_ ?_
    · exact (by repeat (first | exact trivial | refine And.intro (by first | exact lv_of hO (by cbv <;> rfl) (by trivial) | (cbv <;> rfl)) ?_))
    refine AnyE.run tok hO (by rfl) (by cbv <;> rfl) (by trivial) ?_
    refine ⟨tabR [(1, 1)], ⟨⟨58, getT [(1, iV w), (2, iV n), (3, .ptr 0 0), (8, .ptr 1 0), (9, iV 11)]⟩, []⟩, tkZ d, ?_, rfl, _, rfl, ⟨rfl, rfl, rfl, rfl, rfl, trivial⟩, rfl⟩
    exact WeakR.tab rfl rfl (by simp) (by rfl) (by show 1 ≤ 2; omega) (by rfl) ⟨RenV.closed Below.lit, RenV.closed Below.lit, RenV.ptr (by omega), RenV.ptr (by omega), RenV.closed Below.lit, trivial⟩ ⟨⟨by omega, _, rfl, .cells (RenVs.closed (AllB.ok ⟨Below.lit, Below.lit, Below.lit, Below.lit, Below.lit, Below.lit, Below.lit, trivial⟩)), rfl⟩, ⟨by omega, _, rfl, .cells (RenVs.closed (dayC_below d)), rfl⟩, trivial⟩
set_option maxHeartbeats 8000000 in
theorem thicker_none (d : DayD) (w : Nat) (n : Int) (hn : 0 ≤ n ∧ n ≤ 60)
    (e1 : Pure Try.prog 73 [dayV d, iV w] (.lit (.bool true))) (e2 : Pure Try.prog 57 [dayV d, .lit (.bool true)] (.tup [.agg stZ, iV 11])) :
    Pure Try.prog 23 [dayV d, iV w, iV n] (.tup [iV 0, iV 11]) := by
  obtain ⟨O, hO⟩ : ∃ O : Ar, O = std := ⟨_, rfl⟩
  refine pure_of_body tok 3 Try.func23 en23 rfl ⟨dayV_below d, Below.lit, Below.lit, trivial⟩ (Below.tup (AllB.ok ⟨Below.lit, Below.lit, trivial⟩)) ?_
  refine SW.seqRun tok hO (by cbv <;> rfl) (by trivial) ?_
  refine SW.seq ((thicker_z d w n hn e1 e2 _ ⟨rfl, rfl, rfl, trivial⟩).mono fun e f st hm => ?_)
  obtain ⟨rfl, g, rfl, ⟨g1, g2, g3, g8, g9, _⟩, rfl⟩ := hm
  simp only at g1 g2 g3 g8 g9
  rw [← updT_self g1, ← updT_self g2, ← updT_self g8, ← updT_self g9]
  show SW _ _ _ _ _ _
  refine SW.seq ?_
  refine SW.seqRun tok hO (by cbv <;> rfl) (by trivial) ?_
  refine SW.condS (by cbv <;> rfl) (fun h1 => ?_) (fun h1 => ?_)
  · refine SW.seqRun tok hO (by cbv <;> rfl) (by trivial) ?_
    exact SW.ret ⟨_, _, rfl, rfl, Eqv.of rfl⟩
  · exfalso
    subst hO; simp [std] at h1
def DayD.thick (d : DayD) (w : Nat) (n : Int) : Int := if d.seen.outs = [] then 0 else verdict (fun i => decide (n < nthF d.seen.outs i w)) d.seen.outs.length
def DayD.thickE (d : DayD) : Int := if d.seen.outs = [] then 11 else 0
theorem foldE_outs (d : DayD) (hc : d.check = 0) : d.seen.outs.length ≤ 2000 := by
  have h1 := foldE_len (stNx d) (fun a => a.outs.length) (d.nw + d.nl) d.ulo d.uhi (fun a f => next_len d a f) (d.nw + d.nl) 0 (fun _ => 0) pr0
  have h2 := cnt_small hc
  have h3 : pr0.outs.length = 0 := rfl
  have h4 : d.seen.outs.length ≤ pr0.outs.length + cntE d.ulo d.uhi (d.nw + d.nl) 0 := h1
  omega
theorem thicker_ok (d : DayD) (hs : d.small) (hc : d.check = 0) (w : Nat) (hw : w < d.nw) (n : Int) (hn : 0 ≤ n ∧ n ≤ 60) : Pure Try.prog 23 [dayV d, iV w, iV n] (.tup [iV (d.thick w n), iV d.thickE]) := by
  have e1 : Pure Try.prog 73 [dayV d, iV w] (.lit (.bool true)) := (hasWoman_ok d w).res (Eqv.lit (by
    simp only [DayD.hasW, Bool.and_eq_true, decide_eq_true_eq]
    omega))
  cases ho : d.seen.outs with
  | nil =>
    have h1 : d.thick w n = 0 := if_pos ho
    have h2 : d.thickE = 11 := if_pos ho
    rw [h1, h2]
    exact thicker_none d w n hn e1 (open_none d hs hc ho)
  | cons f l =>
    have hlen := foldE_outs d hc
    rw [ho] at hlen
    have hne : d.seen.outs ≠ [] := fun e => by rw [ho] at e; cases e
    have h1 : d.thick w n = verdict (fun i => decide (n < nthF (f :: l) i w)) (l.length + 1) := by
      unfold DayD.thick
      rw [if_neg hne, ho]; rfl
    have h2 : d.thickE = 0 := if_neg hne
    rw [h1, h2]
    have e2 := open_ok d hs hc f l ho
    have hW : workM d (f :: l) = fun k => .agg [iV d.hand, iV d.flat, womsV d, lotsV d, cntsV d, .isl (l.length + 1) 8 false (outG d (f :: l)), .mp k] := rfl
    rw [hW, outG_X] at e2
    exact thicker_core d w n hw hn (l.length + 1) _ _ _ _ _ _ _ _ _ _ (by have : (f :: l).length = l.length + 1 := rfl; omega) e1 e2
end Go.Fz
