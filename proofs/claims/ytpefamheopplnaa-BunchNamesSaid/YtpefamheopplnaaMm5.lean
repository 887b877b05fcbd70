/- Own work of the verifier of watercress: FzS. -/
import Derived.Test.YtpefamheopplnaaMm4
set_option linter.unusedVariables false
set_option linter.unusedSimpArgs false
namespace Go.Fz
variable {P : Program} {T : Ti}
def slotOf (ops : Array Oper) (l : List Nat) (f : Fm) : Option (Nat × Bool) := match l with
  | [] => none
  | i :: _ => match ops[i]? with
    | none => none
    | some o => match o.guard with
      | none => match o.op with
        | .pick (.tmp d) _ _ => match f.ts.get d with
          | .sb b => some (d, b)
          | _ => none
        | _ => none
      | some (j, _) => match (ops[j]?).bind (·.dst) with
        | none => none
        | some d => match f.ts.get d with
          | .sb b => some (d, b)
          | _ => match o.op with
            | .pick (.tmp d) _ _ => match f.ts.get d with
              | .sb b => some (d, b)
              | _ => none
            | _ => none
theorem slotOf_ok {ops : Array Oper} {l : List Nat} {f : Fm} {t : Nat} {b : Bool} (h : slotOf ops l f = some (t, b)) : f.ts.get t = .sb b := by
  unfold slotOf at h
  split at h
  · cases h
  · split at h
    · cases h
    · split at h
      · split at h
        · split at h
          · rename_i hq; cases h; exact hq
          · cases h
        · cases h
      · split at h
        · cases h
        · split at h
          · rename_i hq; cases h; exact hq
          · split at h
            · split at h
              · rename_i hq; cases h; exact hq
              · cases h
            · cases h
theorem OpsW.splitG {rd : Option Nat} {ops : Array Oper} {K : Fm → St → Prop} {l : List Nat} {f : Fm} {st : St} {t : Nat} {b : Bool} (hs : slotOf ops l f = some (t, b)) (h1 : b = true → OpsW P rd ops l K ⟨f.ts.put t (.lit (.bool true)), f.dm⟩ st)
    (h0 : b = false → OpsW P rd ops l K ⟨f.ts.put t (.lit (.bool false)), f.dm⟩ st) : OpsW P rd ops l K f st := OpsW.split t (slotOf_ok hs) h1 h0
def callAt (ops : Array Oper) (i : Nat) (f : Fm) : Option (FuncId × List AV) := match ops[i]? with
  | none => none
  | some o => match wantA ops f.ts o with
    | some true => match callO (Operand.av f.ts) o with
      | some (.fn (.func g) first caps, as) => some (g, first ++ as ++ caps)
      | _ => none
    | _ => none
def putAt (ops : Array Oper) (i : Nat) (f : Fm) (v : AV) : Fm := match ops[i]? with
  | none => f
  | some o => f.put o.dst v
theorem callAt_ok {ops : Array Oper} {i : Nat} {f : Fm} {g : FuncId} {args : List AV} (h : callAt ops i f = some (g, args)) : ∃ o first caps as, ops[i]? = some o ∧ wantA ops f.ts o = some true ∧ callO (Operand.av f.ts) o = some (.fn (.func g) first caps, as) ∧ first ++ as ++ caps = args ∧ ∀ v, putAt ops i f v = f.put o.dst v := by
  unfold callAt at h
  split at h
  · cases h
  · rename_i o ho
    split at h
    · rename_i hw
      split at h
      · rename_i g' first caps as hc
        cases h
        exact ⟨o, first, caps, as, ho, hw, hc, rfl, fun v => by simp [putAt, ho]⟩
      · cases h
    · cases h
theorem OpsW.callP {rd : Option Nat} {ops : Array Oper} {i : Nat} {l : List Nat} {K : Fm → St → Prop} {f : Fm} {st : St} {g : FuncId} {args : List AV} {r : AV} (hp : Pure P g args r) (hc : callAt ops i f = some (g, args)) (h : OpsW P rd ops l K (putAt ops i f r) st) : OpsW P rd ops (i :: l) K f st := by
  obtain ⟨o, first, caps, as, ho, hw, hcc, ha, hput⟩ := callAt_ok hc
  subst ha
  rw [hput] at h
  exact OpsW.pure hp ho hw hcc h
theorem OpsW.callB {rd : Option Nat} {ops : Array Oper} {i : Nat} {l : List Nat} {K : Fm → St → Prop} {f : Fm} {st : St} {g : FuncId} {args : List AV} {e : Bool} (hp : Pure P g args (.sb e)) (hc : callAt ops i f = some (g, args)) (h : ∀ b, b = e → OpsW P rd ops l K (putAt ops i f (.sb b)) st) : OpsW P rd ops (i :: l) K f st :=
  OpsW.callP hp hc (h e rfl)
theorem OpsW.callI {rd : Option Nat} {ops : Array Oper} {i : Nat} {l : List Nat} {K : Fm → St → Prop} {f : Fm} {st : St} {g : FuncId} {args : List AV} {k : IntKind} {e : Int} (hp : Pure P g args (.lit (.int k e))) (hc : callAt ops i f = some (g, args)) (h : ∀ n, n = e → OpsW P rd ops l K (putAt ops i f (.lit (.int k n))) st) : OpsW P rd ops (i :: l) K f st :=
  OpsW.callP hp hc (h e rfl)
inductive DOut where
  | done (cs : List Cond) (f : Fm) (st : St)
  | stop (cs : List Cond) (fuel : Nat) (pend : List (Nat × AV)) (listed : Array Bool) (f : Fm) (st : St)
def DOut.cs : DOut → List Cond
  | .done cs _ _ => cs
  | .stop cs _ _ _ _ _ => cs
def pickD (O : Ar) (T : Ti) (ops : Array Oper) (pend : List (Nat × AV)) (h : Hp) (f : Fm) : List Nat → Option (Nat × Oper × List Cond × AV)
  | [] => none
  | i :: l => match ops[i]? with
    | none => pickD O T ops pend h f l
    | some o => match noLookB ops pend o with
      | false => pickD O T ops pend h f l
      | true => match wantA ops f.ts o with
        | some false => some (i, o, [], undA)
        | some true => match stE O T h (Operand.av f.ts) o with
          | some (c, r) => some (i, o, c, r)
          | none => pickD O T ops pend h f l
        | none => pickD O T ops pend h f l
def isCmp (o : Oper) : Bool := match o.op with
  | .binOp .. | .unOp .. => true
  | _ => false
def runD (O : Ar) (T : Ti) (ops : Array Oper) : Nat → List (Nat × AV) → Array Bool → List Cond → Fm → St → DOut
  | 0, pend, listed, cs, f, st => match Region.ready .any ops listed with
    | [] => .done cs f st
    | _ => .stop cs 0 pend listed f st
  | fuel + 1, pend, listed, cs, f, st => match Region.ready .any ops listed with
    | [] => .done cs f st
    | rs => match pickD O T ops pend st.h f rs with
      | some (i, o, c, .sb b) => match isCmp o with
        | true => .stop cs (fuel + 1) pend listed f st
        | false => runD O T ops fuel ((i, .sb b) :: pend) (listed.setIfInBounds i true) (c ++ cs) (f.put o.dst (.sb b)) st
      | some (i, o, c, r) => runD O T ops fuel ((i, r) :: pend) (listed.setIfInBounds i true) (c ++ cs) (f.put o.dst r) st
      | none => .stop cs (fuel + 1) pend listed f st
def DOut.post (P : Program) (T : Ti) (rd : Option Nat) (ops : Array Oper) (K : Fm → St → Prop) : DOut → Prop
  | .done _ f st => K f st
  | .stop _ fuel pend listed f st => AnyE P T ops (masks ops) rd K fuel pend listed f st
theorem pickD_ok {O : Ar} {ops : Array Oper} {pend : List (Nat × AV)} {h : Hp} {f : Fm} {i : Nat} {o : Oper} {c : List Cond} {r : AV} (hO : O = std) : ∀ {l : List Nat}, pickD O T ops pend h f l = some (i, o, c, r) → i ∈ l ∧ ops[i]? = some o ∧ noLookB ops pend o = true ∧ ((∀ x ∈ c, x.holds) → lightV T ops h f i = some r)
  | [], hp => by cases hp
  | j :: l, hp => by
    subst hO
    have next : pickD std T ops pend h f l = some (i, o, c, r) → i ∈ j :: l ∧ ops[i]? = some o ∧ noLookB ops pend o = true ∧ ((∀ x ∈ c, x.holds) → lightV T ops h f i = some r) := fun hq => by
      obtain ⟨h1, h2⟩ := pickD_ok rfl hq
      exact ⟨List.mem_cons_of_mem _ h1, h2⟩
    unfold pickD at hp
    split at hp
    · exact next hp
    · rename_i oj hoj
      split at hp
      · exact next hp
      · rename_i hnl
        split at hp
        · rename_i hw
          cases hp
          exact ⟨List.mem_cons_self, hoj, hnl, fun _ => by simp [Fz.lightV, hoj, hw]⟩
        · rename_i hw
          split at hp
          · rename_i c' r' hs
            cases hp
            exact ⟨List.mem_cons_self, hoj, hnl, fun hc => by simp only [Fz.lightV, hoj, hw]; exact stE_ok hs hc⟩
          · exact next hp
        · exact next hp
theorem runD_cs {O : Ar} {ops : Array Oper} : ∀ (fuel : Nat) (pend : List (Nat × AV)) (listed : Array Bool) (cs : List Cond) (f : Fm) (st : St), ∀ c ∈ cs, c ∈ (runD O T ops fuel pend listed cs f st).cs
  | 0, _, _, cs, _, _, c, h => by
    unfold runD
    split <;> exact h
  | fuel + 1, pend, listed, cs, f, st, c, h => by
    unfold runD
    split
    · exact h
    · split
      · split
        · exact h
        · exact runD_cs fuel _ _ _ _ _ c (List.mem_append_right _ h)
      · exact runD_cs fuel _ _ _ _ _ c (List.mem_append_right _ h)
      · exact h
theorem runD_ok (hT : TOk P T) {O : Ar} (hO : O = std) {rd : Option Nat} {ops : Array Oper} {K : Fm → St → Prop} (hM : tidyB ops (masks ops) = true) : ∀ (fuel : Nat) (pend : List (Nat × AV)) (listed : Array Bool) (cs : List Cond) (f : Fm) (st : St),
    (∀ c ∈ (runD O T ops fuel pend listed cs f st).cs, c.holds) → (runD O T ops fuel pend listed cs f st).post P T rd ops K → AnyE P T ops (masks ops) rd K fuel pend listed f st
  | 0, _, _, _, _, _, _, h => by
    unfold runD at h
    split at h
    · rename_i hr
      exact .done (by rw [hr]; rfl) h
    · exact h
  | fuel + 1, pend, listed, cs, f, st, hc, h => by
    unfold runD at hc h
    split at h
    · rename_i hr
      exact .done (by rw [hr]; rfl) h
    · rename_i hr
      split at h
      · rename_i i o c b hp
        obtain ⟨h1, h2, h3, h4⟩ := pickD_ok hO hp
        simp only [hp] at hc
        split at h
        · exact h
        · rename_i hcmp
          simp only [hcmp] at hc
          have hl := h4 fun x hx => hc x (runD_cs fuel _ _ _ _ _ x (List.mem_append_left _ hx))
          refine .take hM hT i h2 ?_ hl (runD_ok hT hO hM fuel _ _ _ _ _ hc h)
          rw [h3, Bool.and_true]
          exact List.contains_iff_mem.2 h1
      · rename_i i o c r hnsb hp
        obtain ⟨h1, h2, h3, h4⟩ := pickD_ok hO hp
        simp only [hp] at hc
        have hl := h4 fun x hx => hc x (runD_cs fuel _ _ _ _ _ x (List.mem_append_left _ hx))
        refine .take hM hT i h2 ?_ hl (runD_ok hT hO hM fuel _ _ _ _ _ hc h)
        rw [h3, Bool.and_true]
        exact List.contains_iff_mem.2 h1
      · exact h
theorem SW.runD (hT : TOk P T) (hm : P.follows .mixedOrders = true) {O : Ar} (hO : O = std) {rd : Option Nat} {id : Nat} {ops : Array Oper} {Q : Exit → Fm → St → Prop} {f : Fm} {st : St} {R : DOut} (hM : tidyB ops (masks ops) = true)
    (hR : Fz.runD O T ops ops.size [] (Array.replicate ops.size false) [] f st = R) (hc : allC R.cs) (h : R.post P T rd ops (fun f st => Q .normal f st)) : SW P rd (.region id ops true) Q f st := by
  subst hR
  exact SW.drawnE hm hM (runD_ok hT hO hM _ _ _ _ _ _ (allC_ok hc) h)
def DOut.postS (P : Program) (T : Ti) (rd : Option Nat) (ops : Array Oper) (y : Code) (Q : Exit → Fm → St → Prop) : DOut → Prop
  | .done _ f st => SW P rd y Q f st
  | .stop _ fuel pend listed f st => AnyE P T ops (masks ops) rd (fun f st => SW P rd y Q f st) fuel pend listed f st
theorem SW.seqRunD (hT : TOk P T) (hm : P.follows .mixedOrders = true) {O : Ar} (hO : O = std) {rd : Option Nat} {id : Nat} {ops : Array Oper} {y : Code} {Q : Exit → Fm → St → Prop} {f : Fm} {st : St} {R : DOut} (hM : tidyB ops (masks ops) = true)
    (hR : Fz.runD O T ops ops.size [] (Array.replicate ops.size false) [] f st = R) (hc : allC R.cs) (h : R.postS P T rd ops y Q) : SW P rd (.seq (.region id ops true) y) Q f st :=
  SW.seq (SW.runD hT hm hO hM hR hc (by cases R <;> exact h))
theorem AnyE.run (hT : TOk P T) {O : Ar} (hO : O = std) {rd : Option Nat} {ops : Array Oper} {K : Fm → St → Prop} {fuel : Nat} {pend : List (Nat × AV)} {listed : Array Bool} {f : Fm} {st : St} {R : DOut} (hM : tidyB ops (masks ops) = true)
    (hR : Fz.runD O T ops fuel pend listed [] f st = R) (hc : allC R.cs) (h : R.post P T rd ops K) : AnyE P T ops (masks ops) rd K fuel pend listed f st := by
  subst hR
  exact runD_ok hT hO hM _ _ _ _ _ _ (allC_ok hc) h
def cmpD (O : Ar) (T : Ti) (ops : Array Oper) (pend : List (Nat × AV)) (listed : Array Bool) (f : Fm) (st : St) : Option (Nat × Oper × List Cond × Bool) := match pickD O T ops pend st.h f (Region.ready .any ops listed) with
  | some (i, o, c, .sb b) => some (i, o, c, b)
  | _ => none
theorem AnyE.dec (hT : TOk P T) {O : Ar} (hO : O = std) {rd : Option Nat} {ops : Array Oper} {K : Fm → St → Prop} {fuel : Nat} {pend : List (Nat × AV)} {listed : Array Bool} {f : Fm} {st : St} {i : Nat} {o : Oper} {cs : List Cond} {b : Bool} (hM : tidyB ops (masks ops) = true)
    (hp : cmpD O T ops pend listed f st = some (i, o, cs, b)) (hc : allC cs)
    (h1 : b = true → AnyE P T ops (masks ops) rd K fuel ((i, .lit (.bool true)) :: pend) (listed.setIfInBounds i true) (f.put o.dst (.lit (.bool true))) st)
    (h0 : b = false → AnyE P T ops (masks ops) rd K fuel ((i, .lit (.bool false)) :: pend) (listed.setIfInBounds i true) (f.put o.dst (.lit (.bool false))) st) : AnyE P T ops (masks ops) rd K (fuel + 1) pend listed f st := by
  unfold cmpD at hp
  split at hp
  · rename_i i' o' c' b' hq
    cases hp
    obtain ⟨k1, k2, k3, k4⟩ := pickD_ok hO hq
    have hl := k4 (allC_ok hc)
    have hb : ((Region.ready .any ops listed).contains i && noLookB ops pend o) = true := by
      rw [k3, Bool.and_true]
      exact List.contains_iff_mem.2 k1
    cases hbb : b with
    | true => exact .takeE hM hT i k2 hb ⟨_, hl, Eqv.lit hbb⟩ (h1 hbb)
    | false => exact .takeE hM hT i k2 hb ⟨_, hl, Eqv.lit hbb⟩ (h0 hbb)
  · cases hp
def onlyD (ops : Array Oper) (M : List Nat) (pend : List (Nat × AV)) (listed : Array Bool) : Option (Nat × List (Nat × AV)) := match Region.ready .any ops listed with
  | [j] => match ops[j]? with
    | some o => match noLookB ops (dropP M j pend) o with
      | true => some (j, dropP M j pend)
      | false => none
    | none => none
  | _ => none
theorem AnyE.callP {rd : Option Nat} {ops : Array Oper} {M : List Nat} {K : Fm → St → Prop} {fuel : Nat} {pend pend' : List (Nat × AV)} {listed : Array Bool} {f : Fm} {st : St} {j : Nat} {g : FuncId} {args : List AV} {r : AV} (hp : Pure P g args r)
    (hj : onlyD ops M pend listed = some (j, pend')) (hc : callAt ops j f = some (g, args)) (h : AnyE P T ops M rd K fuel pend' (listed.setIfInBounds j true) (putAt ops j f r) st) : AnyE P T ops M rd K (fuel + 1) pend listed f st := fun k1 k2 k3 => by
  unfold onlyD at hj
  split at hj
  · rename_i j' hr
    split at hj
    · rename_i o ho
      split at hj
      · rename_i hnl
        cases hj
        obtain ⟨o', first, caps, as, ho', hw, hcc, ha, hput⟩ := callAt_ok hc
        rw [ho] at ho'; cases ho'
        subst ha
        rw [hput] at h
        refine AnyE.one j ho (by rw [hr]; exact Nat.beq_refl j) _ rfl (OpsW.pure hp ho hw hcc (.nil ⟨⟨_, rfl⟩, fun p hpm => ?_, h⟩)) k1 k2 k3
        show LV T ops st.h (f.put o.dst r) p.1 p.2
        rw [LV_put (fun q hq d hd => noLookB_ok hnl p hpm q hq d hd)]
        exact k3 p (List.mem_filter.1 hpm).1
      · cases hj
    · cases hj
  · cases hj
theorem runO_one {O : Ar} {ops : Array Oper} {j : Nat} {f f' : Fm} {st st' : St} {cs : List Cond} (h : runO O T ops [j] [] f st = .done cs f' st') : ∃ o v, ops[j]? = some o ∧ f' = f.put o.dst v := by
  unfold runO at h
  split at h
  · cases h
  · rename_i o ho
    refine ⟨o, ?_⟩
    have fin : ∀ (c : List Cond) (v : AV) (s : St), runO O T ops [] c (f.put o.dst v) s = .done cs f' st' → ∃ v, ops[j]? = some o ∧ f' = f.put o.dst v := fun c v s hq => by
      simp only [runO, ROut.done.injEq] at hq
      exact ⟨v, ho, hq.2.1.symm⟩
    split at h
    · exact fin _ _ _ h
    · cases h
    · split at h
      · exact fin _ _ _ h
      · split at h
        · exact fin _ _ _ h
        · split at h
          · exact fin _ _ _ h
          · split at h
            · exact fin _ _ _ h
            · split at h
              · exact fin _ _ _ h
              · cases h
theorem AnyE.callD {rd : Option Nat} {ops : Array Oper} {M : List Nat} {K : Fm → St → Prop} {fuel : Nat} {pend pend' : List (Nat × AV)} {listed : Array Bool} {f : Fm} {st : St} {j : Nat} {g : FuncId} {args : List AV} {e : Bool} (hp : Pure P g args (.sb e))
    (hj : onlyD ops M pend listed = some (j, pend')) (hc : callAt ops j f = some (g, args)) (h1 : e = true → AnyE P T ops M rd K fuel pend' (listed.setIfInBounds j true) (putAt ops j f (.lit (.bool true))) st)
    (h0 : e = false → AnyE P T ops M rd K fuel pend' (listed.setIfInBounds j true) (putAt ops j f (.lit (.bool false))) st) : AnyE P T ops M rd K (fuel + 1) pend listed f st := by
  cases he : e with
  | true => exact AnyE.callP (hp.res (Eqv.lit he)) hj hc (h1 he)
  | false => exact AnyE.callP (hp.res (Eqv.lit he)) hj hc (h0 he)
theorem AnyE.eff (hT : TOk P T) {O : Ar} (hO : O = std) {rd : Option Nat} {ops : Array Oper} {M : List Nat} {K : Fm → St → Prop} {fuel : Nat} {pend : List (Nat × AV)} {listed : Array Bool} {f f' : Fm} {st st' : St} {j : Nat} {cs : List Cond}
    (hj : onlyD ops M pend listed = some (j, [])) (hR : runO O T ops [j] [] f st = .done cs f' st') (hc : allC cs) (h : AnyE P T ops M rd K fuel [] (listed.setIfInBounds j true) f' st') : AnyE P T ops M rd K (fuel + 1) pend listed f st := fun k1 k2 k3 => by
  have hv := runO_one hR
  unfold onlyD at hj
  split at hj
  · rename_i j' hr
    split at hj
    · rename_i o ho
      split at hj
      · rename_i hnl
        simp only [Option.some.injEq, Prod.mk.injEq] at hj
        obtain ⟨rfl, hd⟩ := hj
        obtain ⟨o', v, ho', rfl⟩ := hv
        rw [ho] at ho'; cases ho'
        refine AnyE.one j' ho (by rw [hr]; exact Nat.beq_refl j') [] hd (OpsW.run hT hO (R := .done cs (f.put o.dst v) st') hR hc ⟨⟨v, rfl⟩, (show PendOk T ops [] (f.put o.dst v) st'.h from fun p hp => absurd hp List.not_mem_nil), h⟩) k1 k2 k3
      · cases hj
    · cases hj
  · cases hj
end Go.Fz
