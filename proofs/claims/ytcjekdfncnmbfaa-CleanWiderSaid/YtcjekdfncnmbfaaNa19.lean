/- Own work of the verifier of watercress: FzCl34, FzKp, FzCl35, FzCl36, FzCl37, FzCl38, FzRo, FzCl39, FzCl40. -/
import Derived.Test.YtcjekdfncnmbfaaNa18
import Derived.Test.YtcjekdfncnmbfaaNa9
set_option linter.unusedVariables false
set_option linter.unusedSimpArgs false
set_option linter.unusedVariables false
namespace Go.Fz
open Go.Proofs
set_option maxRecDepth 100000
def YardD.kept (y : YardD) : List (Nat → Int) := kpS y.badB y.allS
def YardD.ownE (y : YardD) (B : Bool) : Int := if y.anyE B ≠ 0 then y.anyE B else if y.kept = [] then 9 else 0
def YardD.ownL (y : YardD) (B : Bool) : List (Nat → Int) := if y.ownE B = 0 then y.kept else []
theorem dl_frz {S : List (Nat → Int)} {h : Hp} {G : List AV} (hg : h.get 1 = some (.cells none false G)) (hG : ∀ k, k < S.length * 6 → G[k]? = (flatG 6 (gS S) S.length)[k]?) : Eqv (frz h (fun _ => true) 3 (.sl 1 0 S.length 6 false)) (lsV6 S) := by
  have hl : S.length * 6 ≤ G.length := by
    by_cases h0 : S.length * 6 = 0
    · omega
    · have := hG (S.length * 6 - 1) (by omega)
      have h1 : S.length * 6 - 1 < (flatG 6 (gS S) S.length).length := by rw [flatG_length]; omega
      rw [List.getElem?_eq_getElem h1] at this
      have := (List.getElem?_eq_some_iff.1 this).1
      omega
  rw [frz_slE (fm := none) (G := G) rfl hg hl]
  refine Eqv.isl rfl fun i k hi hk => ?_
  have hk2 : i * 6 + k < S.length * 6 := by omega
  have e : G.getD (0 + i * 6 + k) .any = gS S i k := by
    rw [List.getD_eq_getElem?_getD, show 0 + i * 6 + k = i * 6 + k by omega, hG _ hk2, flatG_get 6 (gS S) S.length i k hi hk]; rfl
  rw [e]
  exact Eqv.of rfl
set_option maxHeartbeats 8000000 in
theorem own_ok (y : YardD) (hb : y.nb < 1000000) (hc : y.nc < 1000000) (B : Bool) : Pure Try.prog 60 [yardV y, .sb B] (.tup [lsV6 (y.ownL B), iV (y.ownE B)]) := by
  obtain ⟨O, hO⟩ : ∃ O : Ar, O = std := ⟨_, rfl⟩
  have hE1 : y.anyE B ≠ 0 → y.ownE B = y.anyE B := fun h => if_pos h
  have hE2 : y.anyE B = 0 → y.kept = [] → y.ownE B = 9 := fun h h2 => by unfold YardD.ownE; rw [if_neg (by simp [h]), if_pos h2]
  have hE3 : y.anyE B = 0 → y.kept ≠ [] → y.ownE B = 0 := fun h h2 => by unfold YardD.ownE; rw [if_neg (by simp [h]), if_neg h2]
  have hL1 : y.ownE B ≠ 0 → y.ownL B = [] := fun h => if_neg h
  have hL2 : y.ownE B = 0 → y.ownL B = y.kept := fun h => if_pos h
  have hch : y.anyE B = 0 → y.check = 0 ∧ y.allS ≠ [] := fun h => by
    unfold YardD.anyE at h
    split at h
    · exact absurd h (by assumption)
    · rename_i hz
      split at h
      · omega
      · split at h
        · omega
        · exact ⟨by simpa using hz, by assumption⟩
  have hlen : y.anyE B = 0 → y.allS.length < 1000000 + 1 := fun h => by
    have := mu_foldS (μ := List.length) (y := y) (next := appS) (fun s f => by simp [appS]) (y.fit_of_check (hch h).1).1 (List.range y.nb) [] (fun _ => 0) [] (fun p hp => List.mem_range.1 hp)
    have hnb := (y.fit_of_check (hch h).1).1.nb
    have h2 : 10 ^ (List.range y.nb).length ≤ 10 ^ 6 := Nat.pow_le_pow_right (by omega) (by rw [List.length_range]; exact hnb)
    have h3 : y.allS.length ≤ [].length + 10 ^ (List.range y.nb).length := this
    simp only [List.length_nil] at h3
    omega
  have hany := any_at y hb hc B 1 (R := [(0, .cells none false (yardC y))]) (fun id o h => by
    have := Hp.mem_of_get h
    simp only [List.mem_cons, Prod.mk.injEq, List.not_mem_nil, or_false] at this
    obtain ⟨_, rfl⟩ := this; rfl)
  have hno : y.ownE B ≠ 0 → Eqv (AV.tup [nl3, iV (y.ownE B)]) (.tup [lsV6 (y.ownL B), iV (y.ownE B)]) := fun h => by
    rw [hL1 h]
    exact Eqv.tup (.cons Eqv.nil (.cons (Eqv.refl _) .nil))
  have hcl : y.anyE B = 0 → y.nc < 1000 ∧ ∀ i, i < y.nc → 0 ≤ y.cb i ∧ y.cb i < 6 := fun h => by
    obtain ⟨hf, _, _, _, _, h5, hq⟩ := y.fit_of_check (hch h).1
    have := hf.nb
    exact ⟨by omega, fun i hi => by have := (hq i hi).1; omega⟩
  have hdel := fun (h : y.anyE B = 0) => delete89 (yardC y) (yardC_below y) y.allS y.badB (by have := hlen h; omega) (List.length_pos_iff.2 (hch h).2) (fun f st hg => own90 y f (hcl h).1 (hcl h).2 hg)
  have hbel : Below 0 (AV.tup [lsV6 (y.ownL B), iV (y.ownE B)]) := Below.tup (AllB.ok ⟨lsV6_below _, Below.lit, trivial⟩)
  have hany1 : y.anyE B = 0 → y.anyL B = y.allS := YardD.any_some
  have hany0 : y.anyE B ≠ 0 → y.anyL B = [] := YardD.any_none
  obtain ⟨RES, hRES⟩ : ∃ r, AV.tup [lsV6 (y.ownL B), iV (y.ownE B)] = r := ⟨_, rfl⟩
  rw [hRES] at hbel hno ⊢
  have hyes : y.ownE B = 0 → ∀ (st' : St) G, st'.h.get 1 = some (.cells none false G) → (∀ k, k < y.kept.length * 6 → G[k]? = (flatG 6 (gS y.kept) y.kept.length)[k]?) → Eqv (frz st'.h (fun _ => true) 4 (.tup [.sl 1 0 y.kept.length 6 false, iV 0])) RES := fun h st' G hg hG => by
    rw [← hRES, hL2 h, h]
    exact Eqv.tup (.cons (dl_frz hg hG) (.cons (Eqv.refl _) .nil))
  have hS0 : y.anyE B = 0 → y.allS ≠ [] := fun h => (hch h).2
  clear hch hlen hcl
  obtain ⟨E, hE⟩ : ∃ E, y.anyE B = E := ⟨_, rfl⟩
  rw [hE] at hE1 hE2 hE3 hdel hany hany1 hany0 hS0
  refine pure_of_body tok 4 Try.func60 en60 rfl ⟨yardV_below y, Below.sb, trivial⟩ hbel ?_
  refine SW.seqRun tok hO (by cbv <;> rfl) (by trivial) ?_
  refine SW.seqRun tok hO (by cbv <;> rfl) (by trivial) ?_
  refine OpsW.apply (c := .fn (.func 82) [] []) (args := [yardV y, .sb B]) (by cbv <;> rfl) ⟨en82, hany⟩ fun v st' hk => ?_
  obtain ⟨rfl, rfl⟩ := hk
  by_cases h0 : E = 0
  · replace hany1 := hany1 h0
    replace hdel := hdel h0
    replace hE2 := hE2 h0
    replace hE3 := hE3 h0
    replace hS0 := hS0 h0
    subst h0
    rw [hany1]
    obtain ⟨S, hS⟩ : ∃ S, y.allS = S := ⟨_, rfl⟩
    rw [hS] at hdel hS0 ⊢
    have hkp : y.kept = kpS y.badB S := by rw [← hS]; rfl
    rw [hkp] at hE2 hE3 hyes
    obtain ⟨L, hL⟩ : ∃ L, S.length = L + 1 := ⟨S.length - 1, by have := List.length_pos_iff.2 hS0; omega⟩
    rw [hL] at hdel ⊢
    have hob : objG 1 6 (gS S) (L + 1) = [(1, .cells none false (flatG 6 (gS S) (L + 1)))] := rfl
    rw [hob]
    obtain ⟨G, hG⟩ : ∃ G, flatG 6 (gS S) (L + 1) = G := ⟨_, rfl⟩
    rw [hG] at hdel ⊢
    refine OpsW.run tok hO (by cbv <;> rfl) (by trivial) ?_
    refine SW.seq ?_
    refine SW.seqRun tok hO (by cbv <;> rfl) (by trivial) ?_
    refine SW.condS (by cbv <;> rfl) (fun h1 => ?_) (fun h1 => SW.skip ?_)
    · exfalso; subst hO; simp [std] at h1
    refine (show SW _ _ _ _ _ _ from ?_)
    refine SW.seqRun tok hO (by cbv <;> rfl) (by trivial) ?_
    refine OpsW.apply (c := .fn (.func 89) [] []) (args := [.sl 1 0 (L + 1) 6 false, .fn (.func 90) [] [.ptr 0 0]]) (by cbv <;> rfl) ⟨en89, hdel⟩ fun v st' hk => ?_
    obtain ⟨rfl, G', hg', _, hG'⟩ := hk
    have hyes := fun h => hyes h st' G' hg' hG'
    obtain ⟨KL, hKL⟩ : ∃ K, (kpS y.badB S).length = K := ⟨_, rfl⟩
    rw [hKL] at hyes ⊢
    refine OpsW.run tok hO (by cbv <;> rfl) (by trivial) ?_
    refine SW.seq ?_
    refine SW.seqRun tok hO (by cbv <;> rfl) (by trivial) ?_
    refine SW.condS (by cbv <;> rfl) (fun h1 => ?_) (fun h1 => SW.skip ?_)
    · have hz : KL = 0 := by
        have : ((KL : Nat) : Int) = 0 := by subst hO; simpa [std] using h1
        omega
      have he := hE2 (List.eq_nil_of_length_eq_zero (hKL.trans hz))
      rw [he] at hno
      refine SW.seqRun tok hO (by cbv <;> rfl) (by trivial) ?_
      exact SW.ret ⟨_, _, rfl, rfl, hno (by omega)⟩
    · have hz : KL ≠ 0 := fun e => by subst e; subst hO; simp [std] at h1
      have he := hE3 (fun h => hz (by rw [← hKL, h]; rfl))
      refine (show SW _ _ _ _ _ _ from ?_)
      refine SW.seqRun tok hO (by cbv <;> rfl) (by trivial) ?_
      exact SW.ret ⟨_, _, rfl, rfl, hyes he⟩
  · rw [hany0 h0]
    have he := hE1 h0
    rw [he] at hno
    refine OpsW.run tok hO (by cbv <;> rfl) (by trivial) ?_
    refine SW.seq ?_
    refine SW.seqRun tok hO (by cbv <;> rfl) (by trivial) ?_
    refine SW.condS (by cbv <;> rfl) (fun h1 => ?_) (fun h1 => ?_)
    · refine SW.seqRun tok hO (by cbv <;> rfl) (by trivial) ?_
      exact SW.ret ⟨_, _, rfl, rfl, hno h0⟩
    · exfalso
      exact h0 (by subst hO; simpa [std] using h1)
end Go.Fz
set_option linter.unusedVariables false
namespace Go.Fz
open Go.Proofs
section
variable {P : Program} {T : Ti}
theorem OpsW.sliIp (hT : TOk P T) {rd : Option Nat} {ops : Array Oper} {K : Fm → St → Prop} {f : Fm} {st : St} {i : Nat} {l : List Nat} {t sz k n js u : Nat} {e : Nat → AV} {b : Int}
    (hx : sliAt ops i f = some (t, .ip sz k e, none, some (.lit (.int .i64 b)))) (hu : b = Int.ofNat u) (hb : arrW T t n js = true) (hk : k + n * js ≤ sz) (hle : u ≤ n)
    (h : OpsW P rd ops l K (putAt ops i f (.isl u js false (fun i c => e (k + i * js + c)))) st) : OpsW P rd ops (i :: l) K f st := by
  subst hu
  unfold sliAt at hx
  split at hx
  · cases hx
  · rename_i o ho
    split at hx
    · rename_i hw
      split at hx
      · rename_i t' x lo' hi' hop
        simp only [Option.some.injEq, Prod.mk.injEq] at hx
        obtain ⟨rfl, k2, k3, k4⟩ := hx
        have hlo : lo' = none := by cases lo' <;> simp_all
        subst hlo
        obtain ⟨xb, rfl, hxb⟩ : ∃ xb, hi' = some xb ∧ Operand.av f.ts xb = .lit (.int .i64 (Int.ofNat u)) := by cases hi' <;> simp_all
        have hput : ∀ v, putAt ops i f v = f.put o.dst v := fun v => by simp [putAt, ho]
        rw [hput] at h
        unfold arrW at hb
        split at hb
        · rename_i ti hti
          split at hb
          · rename_i m el hd
            split at hb
            · rename_i j hj
              rw [Bool.and_eq_true] at hb
              obtain rfl := Nat.eq_of_beq_eq_true hb.1
              obtain rfl := Nat.eq_of_beq_eq_true hb.2
              refine OpsW.value ho hw (fun c hc => by rw [hop] at hc; cases hc) (fun φ w a h2 h3 => ?_) h
              have hρ := opR_of h3.ts
              have hxv := hρ x
              rw [k2] at hxv
              obtain ⟨bb, oo, c, us, hv, hz, hc, hus⟩ := hxv.ip_inv
              have hb2 := fun w' => bounds_ok (P := P) (s := false) (len := m) (cap := m) (m := m) (lo := none) (hi := some xb) (mx := none) (l := 0) (u := u) hρ rfl (by simp only [Option.map_some, hxb]; exact natOr_lo) (.inl ⟨rfl, rfl⟩) (Nat.zero_le _) hle (Nat.le_refl _) w'
              refine ⟨φ, w, .slice (some ⟨bb, oo + k, none⟩) u m, .inl ?_, ?_, h2, Ext.refl _, Fr.refl _ _ _⟩
              · have key : (Instr.sliceAt t' (a.eval x) (Option.map a.eval none) (Option.map a.eval (some xb)) (Option.map a.eval none)).run P w = .ok (.slice (some ⟨bb, oo + k, none⟩) u m) w := by
                  simp only [Instr.sliceAt, Sem.run_bind, run_und hT hti, hd, Result.andThen, hv, Instr.sureAddr, hb2 w, run_size hT hj, Sem.run_pure]
                  have hadd : ∀ (b o n : Nat), Addr.add ⟨b, o, none⟩ n = ⟨b, o + n, none⟩ := fun b o n => by unfold Addr.add; split <;> simp_all
                  by_cases hl : m = 0
                  · subst hl
                    obtain rfl : u = 0 := by omega
                    simp
                  · rw [if_neg hl]
                    simp [hadd]
                simp only [Option.map_none, Option.map_some] at key
                simp [execOp, hop, key, Result.andThen]
              · refine .isl u j.size false _ bb (oo + k) m c (fun i k' => us (k + i * j.size + k')) hz (fun i k' hi hk' => ?_) (fun i k' hi hk' => ?_) hle (fun h => by cases h)
                · have h5 : (i + 1) * j.size ≤ m * j.size := Nat.mul_le_mul_right _ (by omega)
                  rw [Nat.succ_mul] at h5
                  rw [← hc (k + i * j.size + k') (by omega)]
                  congr 1; omega
                · have h5 : (i + 1) * j.size ≤ m * j.size := Nat.mul_le_mul_right _ (by omega)
                  rw [Nat.succ_mul] at h5
                  exact hus _ (by omega)
            · cases hb
          · cases hb
        · cases hb
      · cases hx
    · cases hx
theorem AnyE.hv {ops : Array Oper} {M : List Nat} {rd : Option Nat} {K : Fm → St → Prop} {fuel : Nat} {pend pend' : List (Nat × AV)} {listed : Array Bool} {f : Fm} {st : St} {j : Nat} {v : AV} (hj : onlyD ops M pend listed = some (j, pend'))
    (hop : ∀ K : Fm → St → Prop, OpsW P rd ops [] K (putAt ops j f v) st → OpsW P rd ops [j] K f st)
    (h : AnyE P T ops M rd K fuel pend' (listed.setIfInBounds j true) (putAt ops j f v) st) : AnyE P T ops M rd K (fuel + 1) pend listed f st := fun k1 k2 k3 => by
  unfold onlyD at hj
  split at hj
  · rename_i j' hr
    split at hj
    · rename_i o ho
      split at hj
      · rename_i hnl
        cases hj
        have hput : ∀ v, putAt ops j f v = f.put o.dst v := fun v => by simp [putAt, ho]
        refine AnyE.one j ho (by rw [hr]; exact Nat.beq_refl j) _ rfl (hop _ (.nil ⟨⟨_, hput _⟩, fun p hpm => ?_, h⟩)) k1 k2 k3
        show LV T ops st.h (putAt ops j f v) p.1 p.2
        rw [hput, LV_put (fun q hq d hd => noLookB_ok hnl p hpm q hq d hd)]
        exact k3 p (List.mem_filter.1 hpm).1
      · cases hj
    · cases hj
  · cases hj
theorem AnyE.hvS {ops : Array Oper} {M : List Nat} {rd : Option Nat} {K : Fm → St → Prop} {fuel : Nat} {pend : List (Nat × AV)} {listed : Array Bool} {f : Fm} {st st' : St} {j : Nat} {v : AV} (hj : onlyD ops M pend listed = some (j, []))
    (hop : ∀ K : Fm → St → Prop, OpsW P rd ops [] K (putAt ops j f v) st' → OpsW P rd ops [j] K f st)
    (h : AnyE P T ops M rd K fuel [] (listed.setIfInBounds j true) (putAt ops j f v) st') : AnyE P T ops M rd K (fuel + 1) pend listed f st := fun k1 k2 k3 => by
  unfold onlyD at hj
  split at hj
  · rename_i j' hr
    split at hj
    · rename_i o ho
      split at hj
      · rename_i hnl
        simp only [Option.some.injEq, Prod.mk.injEq] at hj
        obtain ⟨rfl, hd⟩ := hj
        have hput : ∀ v, putAt ops j' f v = f.put o.dst v := fun v => by simp [putAt, ho]
        exact AnyE.one j' ho (by rw [hr]; exact Nat.beq_refl j') [] hd (hop _ (.nil ⟨⟨_, hput _⟩, (fun p hp => absurd hp List.not_mem_nil), h⟩)) k1 k2 k3
      · cases hj
    · cases hj
  · cases hj
end
end Go.Fz
set_option linter.unusedVariables false
namespace Go.Fz
open Go.Proofs
set_option maxRecDepth 100000
set_option maxHeartbeats 4000000 in
theorem clone61 (n : Nat) (ex : Bool) (fl : Nat → Int) (hn : n < 1000) : Pure Try.prog 61 [intsV n ex fl] (intsV n false fl) := by
  obtain ⟨O, hO⟩ : ∃ O : Ar, O = std := ⟨_, rfl⟩
  refine pure_of_body tok 3 Try.func61 en61 rfl ⟨intsV_below n ex fl, trivial⟩ (intsV_below n false fl) ?_
  refine SW.seqRun tok hO (by cbv <;> rfl) (by trivial) ?_
  refine SW.seq ?_
  refine SW.seq (SW.runN tok hO 1 (by cbv <;> rfl) (by trivial) ?_)
  refine OpsW.nilIsl tok (by cbv <;> rfl) (fun hz => ?_) ?_
  · refine OpsW.nil ?_
    refine SW.cond (t := true) (by cbv <;> rfl) ?_
    refine SW.seqRun tok hO (by cbv <;> rfl) (by trivial) ?_
    refine SW.ret ⟨_, _, rfl, rfl, ?_⟩
    subst hz
    exact Eqv.nil
  · refine OpsW.nil ?_
    refine SW.cond (t := false) (by cbv <;> rfl) (SW.skip ?_)
    refine SW.seq (SW.runN tok hO 2 (by cbv <;> rfl) (by trivial) ?_)
    rcases Nat.eq_zero_or_pos n with hz | hz
    · subst hz
      refine OpsW.appA tok (by cbv <;> rfl) (by exact append_none (by kernel_rfl) (by rfl)) ?_
      refine OpsW.run tok hO (by cbv <;> rfl) (by trivial) ?_
      refine SW.ret ⟨_, _, rfl, rfl, ?_⟩
      show Eqv (.isl 0 1 true _) (.isl 0 1 false _)
      exact Eqv.trans Eqv.islX (Eqv.isl rfl fun i k hi hk => absurd hi (Nat.not_lt_zero i))
    · refine OpsW.appA tok (by cbv <;> rfl) (by exact append_empty (by kernel_rfl) (by rfl) (by omega) hz fun _ _ => rfl) ?_
      obtain ⟨G, hG⟩ : ∃ G, flatG 1 (intC fl) n = G := ⟨_, rfl⟩
      refine (show OpsW _ _ _ _ _ _ ⟨(1, .cells none false (flatG 1 (intC fl) n)) :: _, _⟩ from ?_)
      rw [hG]
      refine OpsW.run tok hO (by cbv <;> rfl) (by trivial) ?_
      refine SW.ret ⟨_, _, rfl, rfl, ?_⟩
      show Eqv (frz _ _ 3 (.sl 1 0 n 1 false)) _
      rw [frz_slE (fm := none) (G := G) rfl rfl (by rw [← hG, flatG_length]; omega), ← hG]
      exact Eqv.isl rfl fun i' k hi' hk => Eqv.of (frz_flat hi' hk rfl)
def YardD.firstS (y : YardD) (B : Bool) : Nat → Int := (y.ownL B).getD 0 f0
def YardD.showV (y : YardD) : AV := if y.ownE true = 0 then intsV y.nb false (y.firstS true) else nl3
theorem showV_below (y : YardD) : Below 0 y.showV := by
  unfold YardD.showV
  split
  · exact intsV_below _ _ _
  · exact Below.lit
theorem YardD.own_some {y : YardD} {B : Bool} (h : y.ownE B = 0) : y.ownL B = y.kept ∧ y.kept ≠ [] ∧ y.anyE B = 0 := by
  refine ⟨if_pos h, ?_⟩
  unfold YardD.ownE at h
  split at h
  · exact absurd h (by assumption)
  · rename_i h2
    split at h
    · omega
    · exact ⟨by assumption, by simpa using h2⟩
theorem YardD.any_ok0 {y : YardD} {B : Bool} (h : y.anyE B = 0) : y.check = 0 ∧ B = true ∧ y.allS ≠ [] := by
  unfold YardD.anyE at h
  split at h
  · exact absurd h (by assumption)
  · rename_i hz
    split at h
    · omega
    · rename_i hb
      split at h
      · omega
      · exact ⟨by simpa using hz, by simpa using hb, by assumption⟩
theorem Eqv.litB (b : Bool) : Eqv (.lit (.bool b)) (.sb b) := fun φ u hv => by obtain rfl := hv.lit_inv; exact .sb b
set_option maxHeartbeats 4000000 in
theorem show_ok (y : YardD) (hb : y.nb < 1000000) (hc : y.nc < 1000000) : Pure Try.prog 19 [yardV y] (.tup [y.showV, iV (y.ownE true)]) := by
  obtain ⟨O, hO⟩ : ∃ O : Ar, O = std := ⟨_, rfl⟩
  have e1 := (own_ok y hb hc true).eqv (args := [yardV y, .lit (.bool true)]) (.cons (Eqv.refl _) (.cons (Eqv.litB true) .nil))
  have hbel := showV_below y
  have hz : y.ownE true ≠ 0 → y.showV = nl3 := fun h => if_neg h
  have hs : y.ownE true = 0 → y.showV = intsV y.nb false (y.firstS true) := fun h => if_pos h
  have hnb : y.ownE true = 0 → y.nb ≤ 6 := fun h => (y.fit_of_check (YardD.any_ok0 (YardD.own_some h).2.2).1).1.nb
  have hne : y.ownE true = 0 → ∃ L, (y.ownL true).length = L + 1 := fun h => by
    rw [(YardD.own_some h).1]
    have := List.length_pos_iff.2 (YardD.own_some h).2.1
    exact ⟨y.kept.length - 1, by omega⟩
  have e2 := fun (h : y.ownE true = 0) => (clone61 y.nb false (y.firstS true) (by have := hnb h; omega)).eqv (args := [.isl y.nb 1 false (fun i c => gS (y.ownL true) (O.nat 0) (0 + i * 1 + c))]) (.cons (Eqv.isl rfl fun i k hi hk => Eqv.of (by
    obtain rfl : k = 0 := by omega
    have : O.nat 0 = 0 := by subst hO; rfl
    rw [this]
    show iV (((y.ownL true).getD 0 f0) (0 + i * 1 + 0)) = iV (((y.ownL true).getD 0 f0) i)
    rw [Nat.zero_add, Nat.mul_one, Nat.add_zero])) .nil)
  generalize y.showV = V at hbel hz hs ⊢
  obtain ⟨E, hE⟩ : ∃ E, y.ownE true = E := ⟨_, rfl⟩
  rw [hE] at e1 e2 hz hs hnb hne ⊢
  unfold lsV6 at e1
  obtain ⟨g, hg⟩ : ∃ g, gS (y.ownL true) = g := ⟨_, rfl⟩
  rw [hg] at e1 e2
  obtain ⟨N, hN⟩ : ∃ N, (y.ownL true).length = N := ⟨_, rfl⟩
  rw [hN] at e1 hne
  refine pure_of_body tok 4 Try.func19 en19 rfl ⟨yardV_below y, trivial⟩ (Below.tup (AllB.ok ⟨hbel, Below.lit, trivial⟩)) ?_
  refine SW.seqRun tok hO (by cbv <;> rfl) (by trivial) ?_
  refine SW.seqRun tok hO (by cbv <;> rfl) (by trivial) ?_
  refine OpsW.callP e1 (by cbv <;> rfl) ?_
  refine OpsW.run tok hO (by cbv <;> rfl) (by trivial) ?_
  refine SW.seq ?_
  refine SW.seqRun tok hO (by cbv <;> rfl) (by trivial) ?_
  refine SW.condS (by cbv <;> rfl) (fun h1 => ?_) (fun h1 => SW.skip ?_)
  · have h0 : E ≠ 0 := by subst hO; simpa [std] using h1
    rw [hz h0]
    refine SW.seqRun tok hO (by cbv <;> rfl) (by trivial) ?_
    exact SW.ret ⟨_, _, rfl, rfl, Eqv.of rfl⟩
  · have h0 : E = 0 := by subst hO; simpa [std] using h1
    obtain ⟨L, hL⟩ := hne h0
    replace e2 := e2 h0
    rw [hs h0]
    replace hnb := hnb h0
    obtain ⟨FS, hFS⟩ : ∃ f, y.firstS true = f := ⟨_, rfl⟩
    rw [hFS] at e2 ⊢
    subst hL h0
    refine (show SW _ _ _ _ _ _ from ?_)
    refine SW.seqRunD tok mixed hO (by kernel_rfl) (by cbv <;> rfl) ?_ ?_
    · exact ⟨Int.le_refl _, by show (0 : Int) < ((L + 1 : Nat) : Int); omega⟩
    refine AnyE.hv (v := .isl y.nb 1 false (fun i c => g (O.nat 0) (0 + i * 1 + c))) (by cbv <;> rfl) (fun K h => OpsW.sliIp (n := 6) (js := 1) tok (by cbv <;> rfl) rfl (by kernel_rfl) (by omega) hnb h) ?_
    obtain ⟨FV, hFV⟩ : ∃ v, v = AV.isl y.nb 1 false (fun i c => g (O.nat 0) (0 + i * 1 + c)) := ⟨_, rfl⟩
    rw [← hFV] at e2 ⊢
    refine AnyE.callP e2 (by cbv <;> rfl) (by cbv <;> rfl) ?_
    refine AnyE.run tok hO (by kernel_rfl) (by cbv <;> rfl) (by trivial) ?_
    refine SW.ret ⟨_, _, rfl, rfl, ?_⟩
    exact Eqv.tup (.cons (Eqv.isl rfl fun i k hi hk => Eqv.refl _) (.cons (Eqv.refl _) .nil))
end Go.Fz
set_option linter.unusedVariables false
namespace Go.Fz
open Go.Proofs
set_option maxRecDepth 100000
theorem YardD.any_cl {y : YardD} {B : Bool} (h : y.anyE B = 0) : y.nc < 1000 ∧ ∀ i, i < y.nc → 0 ≤ y.cb i ∧ y.cb i < 6 := by
  obtain ⟨hf, _, _, _, _, h5, hq⟩ := y.fit_of_check (YardD.any_ok0 h).1
  have := hf.nb
  exact ⟨by omega, fun i hi => by have := (hq i hi).1; omega⟩
theorem YardD.any_len {y : YardD} {B : Bool} (h : y.anyE B = 0) : y.allS.length < 1000000 + 1 := by
  have hf := (y.fit_of_check (YardD.any_ok0 h).1).1
  have := mu_foldS (μ := List.length) (y := y) (next := appS) (fun s f => by simp [appS]) hf (List.range y.nb) [] (fun _ => 0) [] (fun p hp => List.mem_range.1 hp)
  have hnb := hf.nb
  have h2 : 10 ^ (List.range y.nb).length ≤ 10 ^ 6 := Nat.pow_le_pow_right (by omega) (by rw [List.length_range]; exact hnb)
  have h3 : y.allS.length ≤ [].length + 10 ^ (List.range y.nb).length := this
  simp only [List.length_nil] at h3
  omega
end Go.Fz
set_option linter.unusedVariables false
namespace Go.Fz
open Go.Proofs
set_option maxRecDepth 100000
set_option maxHeartbeats 4000000 in
theorem in106 (m : Nat) (ex : Bool) (fl : Nat → Int) (hm : m < 1000) (i x : Int) {st : St} (hs : st = ⟨[(0, .cells none false [intsV m ex fl])], 1⟩) :
    CallW Try.prog 106 [iV i, iV x, .ptr 0 0] st (fun v st' => v = .sb (hasN m fl x) ∧ st' = st) := by
  subst hs
  obtain ⟨O, hO⟩ : ∃ O : Ar, O = std := ⟨_, rfl⟩
  have e1 := contains_ok m ex fl x hm
  generalize hasN m fl x = Q at e1 ⊢
  refine callW_of_body tok Try.func106 rfl ?_
  refine SW.seqRun tok hO (by cbv <;> rfl) (by trivial) ?_
  refine SW.seqRun tok hO (by cbv <;> rfl) (by trivial) ?_
  refine OpsW.callP e1 (by cbv <;> rfl) ?_
  refine OpsW.run tok hO (by cbv <;> rfl) (by trivial) ?_
  exact SW.ret ⟨_, _, rfl, rfl, rfl, rfl⟩
def subB (n m : Nat) (w fl : Nat → Int) : Bool := allN n fun i => hasN m fl (w i)
set_option maxHeartbeats 4000000 in
theorem areIn_ok (n m : Nat) (en em : Bool) (w fl : Nat → Int) (hn : n < 1000) (hm : m < 1000) : Pure Try.prog 84 [intsV n en w, intsV m em fl] (.sb (subB n m w fl)) := by
  obtain ⟨O, hO⟩ : ∃ O : Ar, O = std := ⟨_, rfl⟩
  have he := each102S n en w ⟨[(0, .cells none false [intsV m em fl])], 1⟩ 106 en106 [] [.ptr 0 0] (fun i => hasN m fl (w i)) (by omega) (fun i hi => in106 m em fl hm i (w i) rfl)
  have hq : subB n m w fl = allN n fun i => hasN m fl (w i) := rfl
  rw [← hq] at he
  generalize subB n m w fl = A at he ⊢
  refine pure_of_body tok 3 Try.func84 en84 rfl ⟨intsV_below n en w, intsV_below m em fl, trivial⟩ Below.sb ?_
  refine SW.seqRun tok hO (by cbv <;> rfl) (by trivial) ?_
  refine SW.seqRun tok hO (by cbv <;> rfl) (by trivial) ?_
  refine OpsW.callS en102 he (by cbv <;> rfl) fun r st' hk => ?_
  obtain ⟨rfl, rfl⟩ := hk
  refine OpsW.run tok hO (by cbv <;> rfl) (by trivial) ?_
  exact SW.ret ⟨_, _, rfl, rfl, Eqv.bool rfl⟩
def YardD.wrB (y : YardD) (f : Nat → Int) (l : List Nat) : Bool := subB (y.wrN f y.nc).length l.length (fun j => (((y.wrN f y.nc).getD j 0 : Nat) : Int)) (fun j => ((l.getD j 0 : Nat) : Int))
def YardD.lvB (y : YardD) (S : List (Nat → Int)) (l : List Nat) : Bool := S.any fun f => y.wrB f l
noncomputable def cvParts : Code × Code := match findRF (bodyF Try.f41) with
  | some p => p
  | none => (.skip, .skip)
def cvL : List (Nat × AV) := [(1, .ptr 0 0), (4, .ptr 1 0), (6, .ptr 2 0), (21, .fn (.func 100) [] [.ptr 3 0])]
noncomputable def cvR : ALoop := { state := .ready, pending := none, tmps := ⟨37, getT cvL⟩, params := #[22], assign := cvParts.1, body := cvParts.2, dfid := 4 }
noncomputable def cvRx : ALoop := { cvR with state := .done, pending := some (.exit 0) }
def cvH (y : YardD) (LV : AV) (r : ALoop) (X : AV) : Hp := [(5, .loop r), (4, .dfr), (3, .cells none false [iV (y.nc : Int)]), (2, .cells none false [X]), (1, .cells none false [LV]), (0, .cells none false (yardC y))]
theorem cvH_low {y : YardD} {s : LoopState} {c : Option Code} {LV X : AV} (hL : Below 0 LV) (hX : Below 0 X) : LowX 49 (cvH y LV { cvR with state := s, pending := c } X) := by
  have hp : ∀ {ρ : Nat → Nat} {n j : Nat}, (∀ i, i < 49 → ρ i = i) → 49 ≤ n → j < 49 → RenV ρ n (.ptr j 0) (.ptr j 0) := fun {ρ n j} hρ hn hj => by
    have := RenV.ptr (ρ := ρ) (n := n) (j := j) (off := 0) (by omega)
    rwa [hρ j hj] at this
  unfold cvH
  refine LowX.cons (by omega) ⟨rfl, rfl, fun ρ n hρ hn => .base (.loop rfl rfl rfl rfl rfl (by show 4 = ρ 4; rw [hρ 4 (by omega)]) (by show 4 < n; omega) rfl (RenV.getT (l := cvL) ⟨hp hρ hn (by omega), hp hρ hn (by omega), hp hρ hn (by omega), RenV.fn .nil (.cons (hp hρ hn (by omega)) .nil), trivial⟩))⟩ ?_
  refine LowX.cons (by omega) ⟨rfl, rfl, fun ρ n hρ hn => .base .dfr⟩ ?_
  refine LowX.cons (by omega) (LowO.ints (AllB.ok ⟨Below.lit, trivial⟩)) ?_
  refine LowX.cons (by omega) (LowO.ints (AllB.ok ⟨hX, trivial⟩)) ?_
  refine LowX.cons (by omega) (LowO.ints (AllB.ok ⟨hL, trivial⟩)) ?_
  exact LowX.cons (by omega) (LowO.ints (yardC_below y)) LowX.nil
theorem cvR_ren {ρ : Nat → Nat} {n : Nat} {s : LoopState} {c : Option Code} (h : ∀ j, j < 6 → ρ j = j) (hn : 5 < n) : RenO ρ n (.loop { cvR with state := s, pending := c }) (.loop { cvR with state := s, pending := c }) := by
  have hp : ∀ j, j < 6 → RenV ρ n (.ptr j 0) (.ptr j 0) := fun j hj => by
    have := RenV.ptr (ρ := ρ) (n := n) (j := j) (off := 0) (by omega)
    rwa [h j hj] at this
  exact .loop rfl rfl rfl rfl rfl (by show 4 = ρ 4; rw [h 4 (by omega)]) (by show 4 < n; omega) rfl (RenV.getT (l := cvL) ⟨hp 0 (by omega), hp 1 (by omega), hp 2 (by omega), RenV.fn .nil (.cons (hp 3 (by omega)) .nil), trivial⟩)
set_option maxHeartbeats 8000000 in
theorem cv_round (y : YardD) (hcl : y.nc < 1000 ∧ ∀ i, i < y.nc → 0 ≤ y.cb i ∧ y.cb i < 6) (S : List (Nat → Int)) (hS : S.length < 2000000) (l : List Nat) (hl : l.length < 1000) :
    YieldW Try.prog 5 [lsV l] ⟨cvH y (lsV6 S) cvR nl3, 49⟩ (fun v st' => ∃ h', ((v = .lit (.bool true) ∧ y.lvB S l = false ∧ h' = cvH y (lsV6 S) cvR nl3) ∨ (v = .lit (.bool false) ∧ y.lvB S l = true ∧ h' = cvH y (lsV6 S) cvRx (lsV l))) ∧ Below 0 v ∧ LowX 49 h' ∧ 49 ≤ st'.n ∧ ∀ id o, Hp.get h' id = some o → st'.h.get id = some o) := by
  obtain ⟨O, hO⟩ : ∃ O : Ar, O = std := ⟨_, rfl⟩
  have hnat : ∀ i : Nat, O.nat (Int.ofNat i) = i := fun i => by subst hO; rfl
  have hl1 := cvH_low (y := y) (s := cvR.state) (c := cvR.pending) (lsV6_below S) (X := nl3) Below.lit
  have hl2 := cvH_low (y := y) (s := cvRx.state) (c := cvRx.pending) (lsV6_below S) (lsV_below l)
  have hlb := lsV_below l
  have e1 := fun f : Nat → Int => wrongIn_ok y f hcl.1 hcl.2
  have hwl : ∀ f, (y.wrN f y.nc).length < 1000 := fun f => Nat.lt_of_le_of_lt (Nat.le_trans (List.length_filter_le _ _) (by rw [List.length_range]; exact Nat.le_refl _)) hcl.1
  have e2 := fun f : Nat → Int => areIn_ok (y.wrN f y.nc).length l.length false false (fun j => (((y.wrN f y.nc).getD j 0 : Nat) : Int)) (fun j => ((l.getD j 0 : Nat) : Int)) (hwl f) hl
  have hq1 : (∀ i, i < S.length → y.wrB (S.getD i f0) l = false) → y.lvB S l = false := fun h => List.any_eq_false.2 fun f hf => by
    obtain ⟨j, hj, e⟩ := List.getElem_of_mem hf
    have := h j hj
    rw [List.getD_eq_getElem?_getD, List.getElem?_eq_getElem hj] at this
    rw [← e]; simpa using this
  have hq2 : ∀ i, i < S.length → y.wrB (S.getD i f0) l = true → y.lvB S l = true := fun i hi h => by
    rw [List.getD_eq_getElem?_getD, List.getElem?_eq_getElem hi] at h
    exact List.any_eq_true.2 ⟨_, List.getElem_mem hi, h⟩
  change ∀ f, Pure Try.prog 84 [lsV (y.wrN f y.nc), lsV l] (.sb (y.wrB f l)) at e2
  generalize y.lvB S l = Q at hq1 hq2 ⊢
  unfold lsV6 at hl1 hl2 ⊢
  obtain ⟨g, hg⟩ : ∃ g : Nat → Nat → Int, g = fun i k => (S.getD i f0) k := ⟨_, rfl⟩
  rw [show gS S = fun i k => iV (g i k) by rw [hg]; rfl] at hl1 hl2 ⊢
  have hgi : ∀ i, AV.agg [iV (g i 0), iV (g i 1), iV (g i 2), iV (g i 3), iV (g i 4), iV (g i 5)] = .agg (arrC (S.getD i f0)) := fun i => by rw [hg]; rfl
  obtain ⟨N, hN⟩ : ∃ N, S.length = N := ⟨_, rfl⟩
  rw [hN] at hq1 hq2 hS hl1 hl2 ⊢
  obtain ⟨M, FL, hLL⟩ : ∃ M fl, lsV l = intsV M false fl := ⟨_, _, rfl⟩
  rw [hLL] at hlb e2 hl2 ⊢
  have hend1 : Q = false → ∀ st' : St, 49 ≤ st'.n → (∀ id o, Hp.get (cvH y (.isl N 6 false fun i k => iV (g i k)) cvR nl3) id = some o → st'.h.get id = some o) → ∃ h', ((AV.lit (.bool true) = .lit (.bool true) ∧ Q = false ∧ h' = cvH y (.isl N 6 false fun i k => iV (g i k)) cvR nl3) ∨ (AV.lit (.bool true) = .lit (.bool false) ∧ Q = true ∧ h' = cvH y (.isl N 6 false fun i k => iV (g i k)) cvRx (intsV M false FL))) ∧ Below 0 (AV.lit (.bool true)) ∧ LowX 49 h' ∧ 49 ≤ st'.n ∧ ∀ id o, Hp.get h' id = some o → st'.h.get id = some o := fun hq st' h1 h2 => ⟨_, .inl ⟨rfl, hq, rfl⟩, Below.lit, hl1, h1, h2⟩
  have hend2 : Q = true → ∀ st' : St, 49 ≤ st'.n → (∀ id o, Hp.get (cvH y (.isl N 6 false fun i k => iV (g i k)) cvRx (intsV M false FL)) id = some o → st'.h.get id = some o) → ∃ h', ((AV.lit (.bool false) = .lit (.bool true) ∧ Q = false ∧ h' = cvH y (.isl N 6 false fun i k => iV (g i k)) cvR nl3) ∨ (AV.lit (.bool false) = .lit (.bool false) ∧ Q = true ∧ h' = cvH y (.isl N 6 false fun i k => iV (g i k)) cvRx (intsV M false FL))) ∧ Below 0 (AV.lit (.bool false)) ∧ LowX 49 h' ∧ 49 ≤ st'.n ∧ ∀ id o, Hp.get h' id = some o → st'.h.get id = some o := fun hq st' h1 h2 => ⟨_, .inr ⟨rfl, hq, rfl⟩, Below.lit, hl2, h1, h2⟩
  unfold cvH at hend1 hend2 ⊢
  refine YieldW.of_round (r := cvR) rfl rfl ?_
  refine SW.run tok hO (by cbv <;> rfl) (by trivial) ?_
  refine ⟨cvR, rfl, rfl, SW.block ?_⟩
  obtain ⟨RB, hRB⟩ : ∃ r, r = ({ cvR with state := .busy } : ALoop) := ⟨_, rfl⟩
  have hRBr : RenO (ren1 49 49) 49 (.loop RB) (.loop RB) := by rw [hRB]; exact cvR_ren (s := .busy) (c := none) (fun j hj => ren1_ne (by omega)) (by omega)
  rw [← hRB]
  refine SW.seqRun tok hO (by cbv <;> rfl) (by trivial) ?_
  refine (SW.block (SW.loopR (fun i : Nat => ⟨⟨37, getT [(1, .ptr 0 0), (6, .ptr 2 0), (7, intsV M false FL), (23, .isl N 6 false fun i k => iV (g i k)), (24, iV N), (25, iV (i : Nat))]⟩, []⟩) (fun _ => ⟨[(5, .loop RB), (4, .dfr), (3, .cells none false [iV (y.nc : Int)]), (2, .cells none false [nl3]), (1, .cells none false [.isl N 6 false fun i k => iV (g i k)]), (0, .cells none false (yardC y))] ++ [], 49⟩) (fun i => N - i) (fun i => i ≤ N ∧ ∀ j, j < i → y.wrB (S.getD j f0) l = false) 0 ⟨Nat.zero_le _, fun j hj => absurd hj (Nat.not_lt_zero j)⟩ (ren1 49 49) ?_ fun i ⟨hi, hall⟩ => ?_))
  · refine WeakR.up rfl rfl (by simp) (Nat.le_refl _) (.inl rfl) (by show 49 ≤ 49; omega) ⟨RenV.ptr (by omega), RenV.ptr (by omega), RenV.closed hlb, RenV.closed (Below.isl fun i k _ _ => Below.lit), RenV.closed Below.lit, RenV.closed Below.lit, trivial⟩
      ⟨⟨by omega, _, rfl, hRBr, .inr rfl⟩, ⟨by omega, _, rfl, .dfr, .inr rfl⟩, ⟨by omega, _, rfl, .cells (.cons (RenV.closed Below.lit) .nil), .inr rfl⟩, ⟨by omega, _, rfl, .cells (.cons (RenV.closed Below.lit) .nil), .inr rfl⟩, ⟨by omega, _, rfl, .cells (.cons (RenV.closed (Below.isl fun i k _ _ => Below.lit)) .nil), .inr rfl⟩, ⟨by omega, _, rfl, .cells (RenVs.closed (yardC_below y)), .inr rfl⟩, trivial⟩ (fun p hp => by cases hp)
  have hni : O.nat (Int.ofNat i) = i := hnat i
  have e1i := e1 (S.getD i f0)
  have e2i := e2 (S.getD i f0)
  rw [← hgi i] at e1i
  rw [show i = O.nat (Int.ofNat i) from hni.symm] at e1i
  rw [hni] at e1i
  obtain ⟨B, hB⟩ : ∃ B, y.wrB (S.getD i f0) l = B := ⟨_, rfl⟩
  rw [hB] at e2i
  obtain ⟨WV, hWV⟩ : ∃ v, lsV (y.wrN (S.getD i f0) y.nc) = v := ⟨_, rfl⟩
  rw [hWV] at e1i e2i
  rw [show g i = g (O.nat (Int.ofNat i)) by rw [hni]] at e1i
  refine SW.seqRun tok hO (by cbv <;> rfl) (by trivial) ?_
  refine SW.seq (SW.condS (by cbv <;> rfl) (fun h => SW.skip ?_) (fun h => SW.exit ?_))
  · have hlt : i < N := by
      have : (i : Int) < (N : Int) := by subst hO; simpa [std] using h
      omega
    refine SW.seq (SW.block ?_)
    refine SW.seqRun tok hO (by cbv <;> rfl) ?_ ?_
    · exact ⟨by show (0 : Int) ≤ (i : Int); omega, by show (i : Int) < (N : Int); omega⟩
    refine SW.seqRun tok hO (by cbv <;> rfl) (by trivial) ?_
    refine OpsW.callP e1i (by cbv <;> rfl) ?_
    refine OpsW.run tok hO (by cbv <;> rfl) (by trivial) ?_
    refine OpsW.callP e2i (by cbv <;> rfl) ?_
    refine OpsW.run tok hO (by cbv <;> rfl) (by trivial) ?_
    refine SW.condS (by cbv <;> rfl) (fun h3 => ?_) (fun h3 => SW.skip ?_)
    · have hBt : B = true := h3
      refine SW.seqRun tok hO (by cbv <;> rfl) (by trivial) ?_
      refine SW.exit ?_
      refine ⟨RB, rfl, hend2 (hq2 i hlt (hB.trans hBt)) _ (by show 49 ≤ 50; omega) fun id o ho => ?_⟩
      have hm := Hp.mem_of_get ho
      simp only [List.mem_cons, List.not_mem_nil, or_false, Prod.mk.injEq] at hm
      rcases hm with ⟨rfl, rfl⟩ | ⟨rfl, rfl⟩ | ⟨rfl, rfl⟩ | ⟨rfl, rfl⟩ | ⟨rfl, rfl⟩ | ⟨rfl, rfl⟩ <;> first | rfl | (rw [hRB]; rfl)
    · have hBf : B = false := h3
      refine SW.run tok hO (by cbv <;> rfl) (by trivial) ?_
      refine ⟨i + 1, by omega, ⟨by omega, fun j hj => ?_⟩, ren1 49 49, ?_⟩
      · rcases Nat.lt_succ_iff_lt_or_eq.1 hj with hj | rfl
        · exact hall j hj
        · exact hB.trans hBf
      refine WeakR.up rfl rfl (by simp) (Nat.le_refl _) (.inl rfl) (by show 49 ≤ 49; omega) ⟨RenV.ptr (by omega), RenV.ptr (by omega), RenV.closed hlb, RenV.closed (Below.isl fun i k _ _ => Below.lit), RenV.closed Below.lit, RenV.inc hO (by omega), trivial⟩
        ⟨⟨by omega, _, rfl, hRBr, .inr rfl⟩, ⟨by omega, _, rfl, .dfr, .inr rfl⟩, ⟨by omega, _, rfl, .cells (.cons (RenV.closed Below.lit) .nil), .inr rfl⟩, ⟨by omega, _, rfl, .cells (.cons (RenV.closed Below.lit) .nil), .inr rfl⟩, ⟨by omega, _, rfl, .cells (.cons (RenV.closed (Below.isl fun i k _ _ => Below.lit)) .nil), .inr rfl⟩, ⟨by omega, _, rfl, .cells (RenVs.closed (yardC_below y)), .inr rfl⟩, trivial⟩ (fun p hp => by cases hp)
  · have hz : i = N := by
      have : (N : Int) ≤ (i : Int) := by subst hO; simpa [std] using h
      omega
    subst hz
    refine ⟨RB, rfl, hend1 (hq1 hall) _ (by show 49 ≤ 49; omega) fun id o ho => ?_⟩
    have hm := Hp.mem_of_get ho
    simp only [List.mem_cons, List.not_mem_nil, or_false, Prod.mk.injEq] at hm
    rcases hm with ⟨rfl, rfl⟩ | ⟨rfl, rfl⟩ | ⟨rfl, rfl⟩ | ⟨rfl, rfl⟩ | ⟨rfl, rfl⟩ | ⟨rfl, rfl⟩ <;> first | rfl | (rw [hRB]; rfl)
end Go.Fz
set_option linter.unusedVariables false
namespace Go.Fz
open Go.Proofs
set_option maxRecDepth 100000
def cvK (y : YardD) (S : List (Nat → Int)) (seen : List (List Nat)) (h : Hp) (n : Nat) : Prop := h = cvH y (lsV6 S) cvR nl3 ∧ 53 ≤ n ∧ ∀ l ∈ seen, y.lvB S l = false
def cvS (y : YardD) (S : List (Nat → Int)) (seen : List (List Nat)) (l : List Nat) (h : Hp) (n : Nat) : Prop := h = cvH y (lsV6 S) cvRx (lsV l) ∧ 53 ≤ n ∧ (∀ l' ∈ seen, y.lvB S l' = false) ∧ y.lvB S l = true
theorem cv_step (y : YardD) (hcl : y.nc < 1000 ∧ ∀ i, i < y.nc → 0 ≤ y.cb i ∧ y.cb i < 6) (S : List (Nat → Int)) (hS : S.length < 2000000) : rsStep (cvK y S) (cvS y S) (fun l => l.length < 1000) 5 := fun seen l h n R hK hok hR => by
  obtain ⟨rfl, hn, hs⟩ := hK
  have ha := YieldW.aside (R := R) (n := n) (m := 49) (y := 5) (by omega) (fun id o ho => ⟨(hR _ (Hp.mem_of_get ho)).1, (hR _ (Hp.mem_of_get ho)).2.2⟩) (by omega) (cvH_low (y := y) (s := cvR.state) (c := cvR.pending) (lsV6_below S) (X := nl3) Below.lit)
    (fun a ha => by rw [List.mem_singleton.1 ha]; exact lsV_below _) (cv_round y hcl S hS l hok)
  refine ha.mono fun v st' hk => ?_
  obtain ⟨h', hk, _, rfl⟩ := hk
  rcases hk with ⟨rfl, hB, rfl⟩ | ⟨rfl, hB, rfl⟩
  · refine .inl ⟨rfl, _, n, Nat.le_refl _, rfl, rfl, hn, fun l' hl' => ?_⟩
    rcases List.mem_append.1 hl' with hl' | hl'
    · exact hs l' hl'
    · rw [List.mem_singleton.1 hl']; exact hB
  · exact .inr ⟨rfl, _, n, Nat.le_refl _, rfl, rfl, hn, hs, hB⟩
def YardD.lveV (y : YardD) : AV := if y.anyE true = 0 then (match (risL y.nc).find? (fun l => y.lvB y.allS l) with
  | none => nl3
  | some l => lsV l) else nl3
set_option maxHeartbeats 8000000 in
theorem leave_ok (y : YardD) (hb : y.nb < 1000000) (hc : y.nc < 1000000) : Pure Try.prog 41 [yardV y] (.tup [y.lveV, iV (y.anyE true)]) := by
  obtain ⟨O, hO⟩ : ∃ O : Ar, O = std := ⟨_, rfl⟩
  have e1 := (any_ok y hb hc true).eqv (args := [yardV y, .lit (.bool true)]) (.cons (Eqv.refl _) (.cons (Eqv.litB true) .nil))
  have hbel : Below 0 y.lveV := by
    unfold YardD.lveV
    split
    · split
      · exact Below.lit
      · exact intsV_below _ _ _
    · exact Below.lit
  have hz : y.anyE true ≠ 0 → y.lveV = nl3 := fun h => if_neg h
  have hnone : y.anyE true = 0 → (∀ l ∈ risL y.nc, y.lvB y.allS l = false) → y.lveV = nl3 := fun h ha => by
    unfold YardD.lveV
    rw [if_pos h, List.find?_eq_none.2 fun l hl => by rw [ha l hl]; simp]
  have hsome : y.anyE true = 0 → ∀ pre l post, risL y.nc = pre ++ l :: post → (∀ l' ∈ pre, y.lvB y.allS l' = false) → y.lvB y.allS l = true → y.lveV = lsV l := fun h pre l post e1 e2 e3 => by
    unfold YardD.lveV
    rw [if_pos h, e1, List.find?_append, List.find?_eq_none.2 fun l hl => by rw [e2 l hl]; simp, List.find?_cons, e3]
    rfl
  have hris := fun (h : y.anyE true = 0) => rising101 (K := cvK y y.allS) (stop := cvS y y.allS) (ok := fun l => l.length < 1000) (mc := 3) (y := 5) (many := y.nc) (by omega) (by have := (y.fit_of_check (YardD.any_ok0 h).1).2.2.2.2.2.1; omega) (fun s h n hk => by
      obtain ⟨rfl, hn, _⟩ := hk
      refine ⟨hn, fun x hx => ?_, none, false, rfl⟩
      unfold cvH at hx
      simp only [List.mem_cons, List.not_mem_nil, or_false] at hx
      rcases hx with rfl | rfl | rfl | rfl | rfl | rfl
      all_goals exact ⟨by show _ < 49; omega, rfl⟩)
    (fun s l h n hk => by
      obtain ⟨rfl, hn, _⟩ := hk
      refine ⟨hn, fun x hx => ?_⟩
      unfold cvH at hx
      simp only [List.mem_cons, List.not_mem_nil, or_false] at hx
      rcases hx with rfl | rfl | rfl | rfl | rfl | rfl
      all_goals (show _ < 49; omega))
    (fun s h n n' hk hle => by
      obtain ⟨rfl, hn, hs⟩ := hk
      exact ⟨rfl, by omega, hs⟩) (fun l hl => by have := risL_len hl; have := (YardD.any_cl h).1; show l.length < 1000; omega) (cv_step y (YardD.any_cl h) y.allS (by have := YardD.any_len h; omega)) (cvH y (lsV6 y.allS) cvR nl3) 6 (by omega) ⟨rfl, by omega, fun _ h => nomatch h⟩
  have hL := fun h : y.anyE true = 0 => YardD.any_some (y := y) (B := true) h
  generalize y.lveV = LV at hbel hz hnone hsome ⊢
  unfold lsV6 at e1
  obtain ⟨E, hE⟩ : ∃ E, y.anyE true = E := ⟨_, rfl⟩
  obtain ⟨AL, hAL⟩ : ∃ l, y.anyL true = l := ⟨_, rfl⟩
  rw [hE] at e1 hz hnone hsome hris hL
  rw [hAL] at e1 hL
  rw [hE]
  obtain ⟨g, hg⟩ : ∃ g : Nat → Nat → Int, g = fun i k => (AL.getD i f0) k := ⟨_, rfl⟩
  have hgg : gS AL = fun i k => iV (g i k) := by rw [hg]; rfl
  rw [hgg] at e1
  obtain ⟨N, hN⟩ : ∃ N, AL.length = N := ⟨_, rfl⟩
  rw [hN] at e1
  refine pure_of_body tok 4 Try.func41 en41 rfl ⟨yardV_below y, trivial⟩ (Below.tup (AllB.ok ⟨hbel, Below.lit, trivial⟩)) ?_
  refine SW.seqRun tok hO (by cbv <;> rfl) (by trivial) ?_
  refine SW.scope ?_
  refine SW.seqRun tok hO (by cbv <;> rfl) (by trivial) ?_
  refine OpsW.callP e1 (by cbv <;> rfl) ?_
  refine OpsW.run tok hO (by cbv <;> rfl) (by trivial) ?_
  refine SW.seq ?_
  refine SW.seqRun tok hO (by cbv <;> rfl) (by trivial) ?_
  refine SW.condS (by cbv <;> rfl) (fun h1 => ?_) (fun h1 => SW.skip ?_)
  · have h0 : E ≠ 0 := by subst hO; simpa [std] using h1
    rw [hz h0]
    refine SW.seqRun tok hO (by cbv <;> rfl) (by trivial) ?_
    exact SW.ret ⟨_, _, rfl, rfl, Eqv.of rfl⟩
  have h0 : E = 0 := by subst hO; simpa [std] using h1
  replace hris := hris h0
  replace hnone := hnone h0
  replace hsome := hsome h0
  rw [← hL h0] at hris hnone hsome
  subst h0
  unfold cvK cvS lsV6 at hris
  rw [hgg, hN] at hris
  refine (show SW _ _ _ _ _ _ from ?_)
  refine SW.seqRun tok hO (by cbv <;> rfl) (by trivial) ?_
  refine SW.seq (SW.label ?_)
  refine SW.seq ?_
  refine SW.seqRun tok hO (by cbv <;> rfl) (by trivial) ?_
  refine OpsW.callS en80 (rising74 (many := y.nc) _ _) (by cbv <;> rfl) fun v st' hk => ?_
  obtain ⟨rfl, rfl⟩ := hk
  refine OpsW.run tok hO (by cbv <;> rfl) (by trivial) ?_
  refine SW.block ?_
  refine SW.fmT (len := 37) cvL rfl rfl ⟨⟨rfl, .inl rfl⟩, ⟨rfl, .inl rfl⟩, ⟨rfl, .inl rfl⟩, ⟨rfl, .inl rfl⟩, trivial⟩ (fun id o ho => by
    have := Hp.mem_of_get ho
    simp only [List.mem_cons, Prod.mk.injEq, List.not_mem_nil, or_false] at this
    omega) ?_
  refine SW.rangeFunc (gf := 100) (first := []) (caps := [.ptr 3 0]) (by rfl) en100 ?_
  refine CallW.mono (show CallW Try.prog 100 [.yld 5, .ptr 3 0] ⟨cvH y (.isl N 6 false fun i k => iV (g i k)) cvR nl3, 6⟩ _ from hris) fun v st' hk => ?_
  obtain ⟨h, n, rfl, hk | ⟨pre, l, post, hE, hk⟩⟩ := hk
  · obtain ⟨rfl, hn, hseen⟩ := hk
    cases hnone hseen
    refine ⟨cvR, rfl, (fun h => by simp [cvR] at h), ?_⟩
    show SW _ _ _ _ _ _
    refine SW.seqRun tok hO (by cbv <;> rfl) (by trivial) ?_
    exact SW.ret ⟨_, _, rfl, rfl, Eqv.of rfl⟩
  · obtain ⟨rfl, hn, hpre, hl⟩ := hk
    cases hsome pre l post hE hpre hl
    refine ⟨cvRx, rfl, (fun h => by simp [cvRx, cvR] at h), ?_⟩
    obtain ⟨M, fl, hlv⟩ : ∃ N fl, lsV l = intsV N false fl := ⟨_, _, rfl⟩
    rw [hlv]
    refine SW.exit ?_
    show SW _ _ _ _ _ _
    refine SW.seqRun tok hO (by cbv <;> rfl) (by trivial) ?_
    exact SW.ret ⟨_, _, rfl, rfl, Eqv.of rfl⟩
end Go.Fz
set_option linter.unusedVariables false
namespace Go.Fz
section
variable {P : Program} {T : Ti}
def roS2 (cs1 cs2 : List AV) : St := ⟨[(1, .cells none true cs2), (0, .cells none true cs1)], 2⟩
def phi2 (φ : Fi) (i1 i2 : Nat) : Fi := ⟨fun j => match j with
  | 0 => φ.f i1
  | _ => φ.f i2, 2, φ.z⟩
theorem roS2_get {cs1 cs2 : List AV} {id : Nat} {o : AObj} (h : (roS2 cs1 cs2).h.get id = some o) : (id = 1 ∧ o = .cells none true cs2) ∨ (id = 0 ∧ o = .cells none true cs1) := by
  simp only [roS2, Hp.get] at h
  split at h
  · rename_i hi; cases h; exact .inl ⟨hi.symm, rfl⟩
  · split at h
    · rename_i hi; cases h; exact .inr ⟨hi.symm, rfl⟩
    · cases h
theorem call_ro2 {g : FuncId} {as0 : List AV} {r : AV} {m i1 i2 : Nat} {fm1 fm2 : Option Nat} {ro1 ro2 : Bool} {cs1 cs2 : List AV} {st : St} (hg1 : st.h.get i1 = some (.cells fm1 ro1 cs1)) (hg2 : st.h.get i2 = some (.cells fm2 ro2 cs2)) (hcs1 : ∀ a ∈ cs1, Below 0 a) (hcs2 : ∀ a ∈ cs2, Below 0 a) (hr : Below 0 r) (hargs : ∀ a ∈ as0, Below 0 a)
    (h : CallW P g (as0 ++ [.ptr 0 0, .ptr 1 0]) (roS2 cs1 cs2) (fun v st' => freeB st'.h not01 = true ∧ Eqv (frz st'.h not01 m v) r)) : CallW P g (as0 ++ [.ptr i1 0, .ptr i2 0]) st (fun v st' => v = r ∧ st' = st) := by
  intro φ w cargs n hrel hargs'
  have closed : ∀ {a : AV} {v : Value}, Below 0 a → VR φ a v → VR (phi2 φ i1 i2) a v := fun hb h =>
    VR.mono (φ := ⟨φ.f, 0, φ.z⟩) (φ' := phi2 φ i1 i2) ⟨Nat.zero_le _, fun id hid => absurd hid (Nat.not_lt_zero id), fun b c hb => hb⟩ (hb _ _ h)
  have hA : ∀ (l : List AV) (us : List Value), (∀ a ∈ l, Below 0 a) → VRL φ (l ++ [.ptr i1 0, .ptr i2 0]) us → VRL (phi2 φ i1 i2) (l ++ [.ptr 0 0, .ptr 1 0]) us := fun l => by
    induction l with
    | nil =>
      intro us _ h
      cases h with
      | cons h1 t => cases t with
        | cons h2 t => cases t with
          | nil =>
            refine .cons ?_ (.cons ?_ .nil)
            · cases h1; exact .ptr (φ := phi2 φ i1 i2) 0 0 (by show 0 < 2; omega)
            · cases h2; exact .ptr (φ := phi2 φ i1 i2) 1 0 (by show 1 < 2; omega)
    | cons a l ih =>
      intro us hl h
      cases h with
      | cons h1 t => exact .cons (closed (hl a List.mem_cons_self) h1) (ih _ (fun x hx => hl x (List.mem_cons_of_mem _ hx)) t)
  have hobj : ∀ {i : Nat} {fm : Option Nat} {ro : Bool} {cs : List AV} {j : Nat}, (phi2 φ i1 i2).f j = φ.f i → st.h.get i = some (.cells fm ro cs) → (∀ a ∈ cs, Below 0 a) → ObjR (phi2 φ i1 i2) w j (.cells none true cs) := fun {i fm ro cs j} e hg hcs => by
    refine ⟨fun k a hk => ?_, fun h => by cases h⟩
    obtain ⟨v, h1, h2⟩ := (hrel.obj i _ hg).1 k a hk
    exact ⟨v, by rw [e]; exact h1, closed (hcs a (List.mem_of_getElem? hk)) h2⟩
  have hrel0 : Rel (phi2 φ i1 i2) (roS2 cs1 cs2) w := by
    refine ⟨rfl, fun j o h => ?_, fun j o h => ?_, fun j o h => ?_, fun i j oi oj hi hj hij ho _ => ?_, fun j o f h hf => ?_, fun b c hb => ⟨(hrel.froz b c hb).1, (hrel.froz b c hb).2.1, fun j o h ho => ?_⟩⟩
    · rcases roS2_get h with ⟨rfl, rfl⟩ | ⟨rfl, rfl⟩ <;> (show _ < 2; omega)
    · rcases roS2_get h with ⟨rfl, rfl⟩ | ⟨rfl, rfl⟩
      · exact hrel.blk i2 _ hg2
      · exact hrel.blk i1 _ hg1
    · rcases roS2_get h with ⟨rfl, rfl⟩ | ⟨rfl, rfl⟩
      · exact hobj rfl hg2 hcs2
      · exact hobj rfl hg1 hcs1
    · rcases roS2_get hi with ⟨rfl, rfl⟩ | ⟨rfl, rfl⟩ <;> cases ho
    · rcases roS2_get h with ⟨rfl, rfl⟩ | ⟨rfl, rfl⟩ <;> cases hf
    · rcases roS2_get h with ⟨rfl, rfl⟩ | ⟨rfl, rfl⟩ <;> cases ho
  refine (h (phi2 φ i1 i2) w cargs n hrel0 (hA _ _ hargs hargs')).mono fun e w1 hp => ?_
  obtain ⟨v, cv, st1, φ1, rfl, ⟨hfree, hv⟩, hvr, hext, hrel1, hfr⟩ := hp
  obtain ⟨hrel2, hfr2⟩ := hrel1.freeze hfree
  have hvr2 := frz_ok (D := not01) hrel1 m hvr
  replace hvr2 := hv _ _ hvr2
  have hfr3 := hfr.trans hfr2
  have hnone : ∀ b, ¬ Owns (phi2 φ i1 i2) (roS2 cs1 cs2) b := fun b ⟨j, o, h, ho, _⟩ => by rcases roS2_get h with ⟨rfl, rfl⟩ | ⟨rfl, rfl⟩ <;> cases ho
  have hzs : ∀ b c, zOf φ1 st1.h not01 w1 b = some c → φ.z b = some c ∨ w.heap.size ≤ b := fun b c hb => (hfr3.zs b c hb).elim .inl fun h => h.elim (fun ho => absurd ho (hnone b)) .inr
  have hext3 : Ext φ ⟨φ.f, φ.n, zOf φ1 st1.h not01 w1⟩ := ⟨Nat.le_refl _, fun _ _ => rfl, fun b c hb => zOf_old (hext.z b c hb)⟩
  have hsame : ∀ k, k < w.heap.size → w1.heap[k]? = w.heap[k]? := fun k hk => hfr3.block k hk (hnone k)
  refine ⟨r, cv, st, ⟨φ.f, φ.n, zOf φ1 st1.h not01 w1⟩, rfl, ⟨rfl, rfl⟩, ?_, hext3, ?_, ?_⟩
  · have h1' := hr _ _ hvr2
    exact VR.mono (φ := ⟨φ1.f, 0, zOf φ1 st1.h not01 w1⟩) (φ' := ⟨φ.f, φ.n, zOf φ1 st1.h not01 w1⟩) ⟨Nat.zero_le _, fun id hid => absurd hid (Nat.not_lt_zero id), fun b c hb => hb⟩ h1'
  · refine ⟨hrel.n, hrel.lt, fun id o ho => Nat.lt_of_lt_of_le (hrel.blk id o ho) hfr3.size, fun id o ho => (hrel.obj id o ho).same hext3 (by rw [hrel.n]; exact hrel.lt id o ho) (hsame _ (hrel.blk id o ho)), hrel.sep, hrel.fam, fun b c hb => ?_⟩
    obtain ⟨h1, h2, _⟩ := hrel2.froz b c hb
    refine ⟨h1, h2, fun id o ho hown hbb => ?_⟩
    rcases hzs b c hb with h3 | h3
    · exact (hrel.froz b c h3).2.2 id o ho hown hbb
    · have := hrel.blk id o ho
      have hbb' : (φ.f id).b = b := hbb
      omega
  · exact ⟨hfr3.os, hfr3.tape, hfr3.output, hfr3.size, fun k hk _ => hsame k hk, fun k hk => .inl hk, fun b c hb => (hzs b c hb).elim .inl fun h => .inr (.inr h)⟩
end
end Go.Fz
set_option linter.unusedVariables false
namespace Go.Fz
open Go.Proofs
set_option maxRecDepth 100000
theorem sel_arr {O : Ar} (hO : O = std) (f : Nat → Int) {b : Int} (h0 : 0 ≤ b) (h6 : b < 6) : O.sel [f 0, f 1, f 2, f 3, f 4, f 5] (O.nat b) = f b.toNat := by
  subst hO
  show [f 0, f 1, f 2, f 3, f 4, f 5].getD b.toNat 0 = _
  have hk : b.toNat < 6 := by omega
  generalize b.toNat = k at hk
  rcases (by omega : k = 0 ∨ k = 1 ∨ k = 2 ∨ k = 3 ∨ k = 4 ∨ k = 5) with rfl | rfl | rfl | rfl | rfl | rfl <;> rfl
set_option maxHeartbeats 4000000 in
theorem at73 (f : Nat → Int) (b w : Int) (h0 : 0 ≤ b) (h6 : b < 6) {st : St} {i1 i2 : Nat} {fm1 fm2 : Option Nat} {ro1 ro2 : Bool} (hg1 : st.h.get i1 = some (.cells fm1 ro1 [iV b])) (hg2 : st.h.get i2 = some (.cells fm2 ro2 [iV w])) :
    CallW Try.prog 73 [.agg (arrC f), .ptr i1 0, .ptr i2 0] st (fun v st' => v = .sb (decide (f b.toNat = w)) ∧ st' = st) := by
  refine call_ro2 (as0 := [.agg (arrC f)]) (m := 3) hg1 hg2 (AllB.ok ⟨Below.lit, trivial⟩) (AllB.ok ⟨Below.lit, trivial⟩) Below.sb (AllB.ok ⟨Below.agg (arrC_below f), trivial⟩) ?_
  obtain ⟨O, hO⟩ : ∃ O : Ar, O = std := ⟨_, rfl⟩
  have hs := sel_arr hO f h0 h6
  have hn : O.nat b < 6 := by subst hO; show b.toNat < 6; omega
  refine callW_of_body tok Try.func73 rfl ?_
  unfold roS2
  refine SW.seqRun tok hO (by cbv <;> rfl) (by trivial) ?_
  refine SW.seqRunD tok mixed hO (by kernel_rfl) (by cbv <;> rfl) ?_ ?_
  · exact ⟨hn, ⟨h0, by show b < ((6 : Nat) : Int); omega⟩⟩
  refine AnyE.dec tok hO (by kernel_rfl) (by cbv <;> rfl) (by trivial) (fun h2 => ?_) (fun h2 => ?_)
  · refine AnyE.run tok hO (by kernel_rfl) (by cbv <;> rfl) (by trivial) ?_
    refine SW.ret ⟨_, _, rfl, rfl, rfl, Eqv.bool ?_⟩
    have h3 : O.cmp .eql (O.sel [f 0, f 1, f 2, f 3, f 4, f 5] (O.nat b)) w = true := h2
    rw [hs] at h3
    have : f b.toNat = w := by subst hO; simpa [std] using h3
    exact (decide_eq_true this).symm
  · refine AnyE.run tok hO (by kernel_rfl) (by cbv <;> rfl) (by trivial) ?_
    refine SW.ret ⟨_, _, rfl, rfl, rfl, Eqv.bool ?_⟩
    have h3 : O.cmp .eql (O.sel [f 0, f 1, f 2, f 3, f 4, f 5] (O.nat b)) w = false := h2
    rw [hs] at h3
    have : ¬ f b.toNat = w := by subst hO; simpa [std] using h3
    exact (decide_eq_false this).symm
set_option maxHeartbeats 4000000 in
theorem index98f (S : List (Nat → Int)) (st : St) (g0 : FuncId) (he : Enters Try.prog g0) (first caps : List AV) (p : Nat → Bool) (hn : S.length < 2000000)
    (hp : ∀ i, i < S.length → CallW Try.prog g0 (first ++ [.agg (arrC (S.getD i f0))] ++ caps) st (fun v st' => v = .sb (p i) ∧ st' = st)) :
    CallW Try.prog 98 [lsV6 S, .fn (.func g0) first caps] st (fun v st' => v = iV (fstT p S.length) ∧ st' = st) := by
  obtain ⟨O, hO⟩ : ∃ O : Ar, O = std := ⟨_, rfl⟩
  have hnat : ∀ i : Nat, O.nat (Int.ofNat i) = i := fun i => by subst hO; rfl
  unfold lsV6
  obtain ⟨gg, hg⟩ : ∃ g : Nat → Nat → Int, g = fun i k => (S.getD i f0) k := ⟨_, rfl⟩
  rw [show gS S = fun i k => iV (gg i k) by rw [hg]; rfl]
  have hgi : ∀ i, AV.agg [iV (gg i 0), iV (gg i 1), iV (gg i 2), iV (gg i 3), iV (gg i 4), iV (gg i 5)] = .agg (arrC (S.getD i f0)) := fun i => by rw [hg]; rfl
  obtain ⟨L, hL⟩ : ∃ L, S.length = L := ⟨_, rfl⟩
  rw [hL] at hp hn ⊢
  refine callW_of_body tok Try.func98 rfl ?_
  refine SW.seqRun tok hO (by cbv <;> rfl) (by trivial) ?_
  refine SW.seq ?_
  refine SW.seqRun tok hO (by cbv <;> rfl) (by trivial) ?_
  refine (SW.block (SW.loop (fun k f st' => ∃ (g : Nat → AV) (c : Nat), f = ⟨⟨19, g⟩, []⟩ ∧ AllP (fun p => g p.1 = p.2) [(0, .isl L 6 false fun i k => iV (gg i k)), (1, .fn (.func g0) first caps), (7, iV L), (8, iV c)] ∧ st' = st ∧ (∀ j, j < c → p j = false) ∧ c ≤ L ∧ k = L - c) (L - 0) ?_ ?_))
  · exact ⟨_, 0, rfl, ⟨rfl, rfl, rfl, rfl, trivial⟩, rfl, (fun j hj => absurd hj (Nat.not_lt_zero j)), Nat.zero_le _, rfl⟩
  · rintro k f st' ⟨g, c, rfl, ⟨g0', g1, g7, g8, _⟩, rfl, hall, hle, rfl⟩
    simp only at g0' g1 g7 g8
    rw [← updT_self g0', ← updT_self g1, ← updT_self g7, ← updT_self g8]
    refine SW.seqRun tok hO (by cbv <;> rfl) (by trivial) ?_
    refine SW.seq (SW.condS (by cbv <;> rfl) (fun h3 => SW.skip ?_) (fun h3 => SW.exit ?_))
    · have hlt : c < L := by subst hO; simpa [std] using h3
      refine SW.seq (SW.block ?_)
      refine SW.seqRun tok hO (by cbv <;> rfl) (by trivial) ?_
      have hc := hp c hlt
      rw [← hgi c] at hc
      obtain ⟨B, hB⟩ : ∃ B, p c = B := ⟨_, rfl⟩
      rw [hB] at hc
      have hnc : O.nat (Int.ofNat c) = c := hnat c
      rw [show gg c = gg (O.nat (Int.ofNat c)) by rw [hnc]] at hc
      refine SW.seq (SW.runN tok hO 5 (by cbv <;> rfl) ?_ ?_)
      · exact ⟨by show (0 : Int) ≤ (c : Int); omega, by show (c : Int) < (L : Int); omega⟩
      refine OpsW.callS he hc (by cbv <;> rfl) fun r st'' hk => ?_
      obtain ⟨rfl, rfl⟩ := hk
      refine OpsW.run tok hO (by cbv <;> rfl) (by trivial) ?_
      refine SW.condS (by cbv <;> rfl) (fun h4 => ?_) (fun h4 => SW.skip ?_)
      · have hBt : B = true := by subst hO; simpa [std] using h4
        refine SW.seqRun tok hO (by cbv <;> rfl) (by trivial) ?_
        exact SW.ret ⟨_, _, rfl, rfl, by rw [fstT_hit hlt (hB.trans hBt) hall]; rfl, rfl⟩
      · have hBf : B = false := by subst hO; simpa [std] using h4
        refine SW.run tok hO (by cbv <;> rfl) (by trivial) ?_
        refine ⟨L - (c + 1), by omega, _, c + 1, rfl, ⟨rfl, rfl, rfl, inc_ok hO (by omega), trivial⟩, rfl, fun j hj => ?_, by omega, rfl⟩
        rcases Nat.lt_succ_iff_lt_or_eq.1 hj with hj | rfl
        · exact hall j hj
        · exact hB.trans hBf
    · have hge : L ≤ c := by subst hO; simpa [std] using h3
      refine SW.seqRun tok hO (by cbv <;> rfl) (by trivial) ?_
      exact SW.ret ⟨_, _, rfl, rfl, by rw [fstT_none fun j hj => hall j (by omega)]; rfl, rfl⟩
theorem fstT_any (p : Nat → Bool) (n : Nat) : decide (0 ≤ fstT p n) = decide (∃ i, i < n ∧ p i = true) := by
  by_cases h : fstT p n = -1
  · rw [decide_eq_false (by omega), decide_eq_false]
    rintro ⟨i, hi, hp⟩
    unfold fstT at h
    cases hf : (List.range n).find? p with
    | none =>
      have := List.find?_eq_none.1 hf i (List.mem_range.2 hi)
      exact this hp
    | some j => rw [hf] at h; simp only at h; omega
  · obtain ⟨i, hi, h1, h2, _⟩ := fstT_some h
    rw [decide_eq_true (by omega), decide_eq_true ⟨i, hi, h2⟩]
set_option maxHeartbeats 4000000 in
theorem contains72 (S : List (Nat → Int)) (st : St) (g0 : FuncId) (he : Enters Try.prog g0) (first caps : List AV) (p : Nat → Bool) (hn : S.length < 2000000)
    (hp : ∀ i, i < S.length → CallW Try.prog g0 (first ++ [.agg (arrC (S.getD i f0))] ++ caps) st (fun v st' => v = .sb (p i) ∧ st' = st)) :
    CallW Try.prog 72 [lsV6 S, .fn (.func g0) first caps] st (fun v st' => v = .sb (decide (∃ i, i < S.length ∧ p i = true)) ∧ st' = st) := by
  obtain ⟨O, hO⟩ : ∃ O : Ar, O = std := ⟨_, rfl⟩
  have hi := index98f S st g0 he first caps p hn hp
  have hq := fstT_any p S.length
  generalize fstT p S.length = I at hi hq
  rw [← hq]
  unfold lsV6 at hi ⊢
  generalize gS S = g at hi ⊢
  generalize S.length = L at hi ⊢
  refine CallW.eqv ?_
  refine callW_of_body tok Try.func72 rfl ?_
  refine SW.seqRun tok hO (by cbv <;> rfl) (by trivial) ?_
  refine SW.seqRun tok hO (by cbv <;> rfl) (by trivial) ?_
  refine OpsW.callS en98 hi (by cbv <;> rfl) fun r st'' hk => ?_
  obtain ⟨rfl, rfl⟩ := hk
  refine OpsW.run tok hO (by cbv <;> rfl) (by trivial) ?_
  refine SW.ret ⟨_, _, rfl, rfl, Eqv.sb ?_, rfl⟩
  subst hO
  simp [std]
end Go.Fz
set_option linter.unusedVariables false
namespace Go.Fz
open Go.Proofs
set_option maxRecDepth 100000
def zC (l : List Int) : Nat → Nat → AV := intC fun j => l.getD j 0
theorem zC_below (l : List Int) (i k : Nat) : Below 0 (zC l i k) := Below.lit
theorem zC_app (l : List Int) (x : Int) : flatG 1 (zC l) l.length ++ [iV x] = flatG 1 (zC (l ++ [x])) (l ++ [x]).length := by
  rw [List.length_append, List.length_singleton]
  show _ = flatG 1 (zC (l ++ [x])) l.length ++ [iV ((l ++ [x]).getD l.length 0)]
  have e1 : flatG 1 (zC (l ++ [x])) l.length = flatG 1 (zC l) l.length := flatG_congr fun j k hj => by
    show iV ((l ++ [x]).getD j 0) = iV (l.getD j 0)
    rw [List.getD_eq_getElem?_getD, List.getD_eq_getElem?_getD, List.getElem?_append_left hj]
  have e2 : (l ++ [x]).getD l.length 0 = x := by simp [List.getD_eq_getElem?_getD]
  rw [e1, e2]
def zV (l : List Int) : AV := intsV l.length false fun j => l.getD j 0
theorem zV_below (l : List Int) : Below 0 (zV l) := intsV_below _ _ _
noncomputable def wkParts : Code × Code := match findRF3 (bodyF Try.f27) with
  | some p => p
  | none => (.skip, .skip)
def wkL : List (Nat × AV) := [(2, .ptr 0 0), (3, .ptr 1 0), (6, .ptr 2 0), (8, .ptr 3 0), (27, .fn (.func 97) [] [.ptr 4 0])]
noncomputable def wkR : ALoop := { state := .ready, pending := none, tmps := ⟨37, getT wkL⟩, params := #[28], assign := wkParts.1, body := wkParts.2, dfid := 5 }
def wkF (y : YardD) (b lo hi : Int) (LV : AV) (r : ALoop) (X : AV) (B : Hp) : Hp :=
  (6, .loop r) :: (5, .dfr) :: (4, .cells none false [iV lo, iV hi]) :: (3, .cells none false [X]) :: (2, .cells none false [LV]) :: (1, .cells none false [iV b]) :: (0, .cells none false (yardC y)) :: B
noncomputable def wkH (y : YardD) (b lo hi : Int) (LV : AV) (s : List Int) (q : Nat) : Hp := wkF y b lo hi LV wkR (slG q 1 s.length) (objG q 1 (zC s) s.length)
theorem wkF_low {y : YardD} {b lo hi : Int} {LV : AV} {st : LoopState} {c : Option Code} {X : Nat → AV} {B : Nat → Hp} (hL : Below 0 LV) (hX : MvO 49 (fun q => .cells none false [X q])) (hB : LowM 49 B) : LowM 49 (fun q => wkF y b lo hi LV { wkR with state := st, pending := c } (X q) (B q)) := by
  have hp : ∀ {ρ : Nat → Nat} {n j : Nat}, (∀ i, i < 49 → i ≠ 48 → ρ i = i) → 49 ≤ n → j < 49 → j ≠ 48 → RenV ρ n (.ptr j 0) (.ptr j 0) := fun {ρ n j} hρ hn hj h48 => by
    have := RenV.ptr (ρ := ρ) (n := n) (j := j) (off := 0) (by omega)
    rwa [hρ j hj h48] at this
  refine LowM.cons (o := fun _ => .loop { wkR with state := st, pending := c }) (by omega) (by omega) (MvO.of rfl rfl fun ρ n hρ hn => .base (.loop rfl rfl rfl rfl rfl (by show 5 = ρ 5; rw [hρ 5 (by omega) (by omega)]) (by show 5 < n; omega) rfl
    (RenV.getT (l := wkL) ⟨hp hρ hn (by omega) (by omega), hp hρ hn (by omega) (by omega), hp hρ hn (by omega) (by omega), hp hρ hn (by omega) (by omega), RenV.fn .nil (.cons (hp hρ hn (by omega) (by omega)) .nil), trivial⟩))) ?_
  refine LowM.cons (o := fun _ => .dfr) (by omega) (by omega) (MvO.of rfl rfl fun ρ n hρ hn => .base .dfr) ?_
  refine LowM.cons (o := fun _ => .cells none false [iV lo, iV hi]) (by omega) (by omega) (MvO.ints (AllB.ok ⟨Below.lit, Below.lit, trivial⟩)) ?_
  refine LowM.cons (o := fun q => .cells none false [X q]) (by omega) (by omega) hX ?_
  refine LowM.cons (o := fun _ => .cells none false [LV]) (by omega) (by omega) (MvO.ints (AllB.ok ⟨hL, trivial⟩)) ?_
  refine LowM.cons (o := fun _ => .cells none false [iV b]) (by omega) (by omega) (MvO.ints (AllB.ok ⟨Below.lit, trivial⟩)) ?_
  exact LowM.cons (o := fun _ => .cells none false (yardC y)) (by omega) (by omega) (MvO.ints (yardC_below y)) hB
theorem wkH_low (y : YardD) (b lo hi : Int) {LV : AV} (hL : Below 0 LV) (s : List Int) : LowM 49 (wkH y b lo hi LV s) := wkF_low (st := wkR.state) (c := wkR.pending) hL slG_low (objG_low (zC_below s))
def anyW (S : List (Nat → Int)) (b w : Int) : Bool := decide (∃ i, i < S.length ∧ decide ((S.getD i f0) b.toNat = w) = true)
def nxW (S : List (Nat → Int)) (b : Int) (s : List Int) (w : Int) : List Int := if anyW S b w = true then s ++ [w] else s
set_option maxHeartbeats 8000000 in
theorem wk_round (y : YardD) (b lo hi : Int) (h0 : 0 ≤ b) (h6 : b < 6) (S : List (Nat → Int)) (hS : S.length < 2000000) (s : List Int) (hs : s.length < 1000) (w : Int) :
    YieldW Try.prog 6 [iV w] ⟨wkH y b lo hi (lsV6 S) s 48, 49⟩ (LowP 49 fun v H' => v = .lit (.bool true) ∧ H' = wkH y b lo hi (lsV6 S) (nxW S b s w)) := by
  obtain ⟨O, hO⟩ : ∃ O : Ar, O = std := ⟨_, rfl⟩
  have hcon := fun (st : St) (g1 : st.h.get 1 = some (.cells none false [iV b])) (g2 : st.h.get 49 = some (.cells none false [iV w])) => contains72 S st 73 en73 [] [.ptr 1 0, .ptr 49 0] (fun i => decide ((S.getD i f0) b.toNat = w)) hS (fun i hi => at73 (S.getD i f0) b w h0 h6 g1 g2)
  have hlow := wkH_low y b lo hi (lsV6_below S) (nxW S b s w)
  have hA : anyW S b w = decide (∃ i, i < S.length ∧ decide ((S.getD i f0) b.toNat = w) = true) := rfl
  rw [← hA] at hcon
  have hnx : nxW S b s w = if anyW S b w = true then s ++ [w] else s := rfl
  obtain ⟨A, hAe⟩ : ∃ A, anyW S b w = A := ⟨_, rfl⟩
  rw [hAe] at hcon hnx
  obtain ⟨NX, hNX⟩ : ∃ n, nxW S b s w = n := ⟨_, rfl⟩
  rw [hNX] at hlow hnx ⊢
  clear hA hAe hNX
  unfold lsV6 at hcon hlow ⊢
  obtain ⟨gg, hgg⟩ : ∃ g, gS S = g := ⟨_, rfl⟩
  rw [hgg] at hcon hlow ⊢
  obtain ⟨N, hN⟩ : ∃ N, S.length = N := ⟨_, rfl⟩
  rw [hN] at hcon hlow ⊢
  have happ := zC_app s w
  have hsame : A = false → ∀ st' : St, 49 ≤ st'.n → (∀ id o, Hp.get (wkH y b lo hi (.isl N 6 false gg) s 48) id = some o → st'.h.get id = some o) → LowF 49 (fun v H' => v = .lit (.bool true) ∧ H' = wkH y b lo hi (.isl N 6 false gg) NX) (.lit (.bool true)) st' := fun hf st' h1 h2 => by
    rw [hf, if_neg (by simp)] at hnx
    subst hnx
    refine ⟨_, 48, ⟨rfl, rfl⟩, Below.lit, hlow, h1, .inl rfl, fun id o ho => ?_⟩
    exact .inl (h2 id o ho)
  have hadd : A = true → ∀ st' : St, st'.n = 52 → (∀ id o, Hp.get (wkH y b lo hi (.isl N 6 false gg) (s ++ [w]) 51) id = some o → st'.h.get id = some o ∨ (id = 51 ∧ ∃ fm ro l, o = .cells none ro l ∧ st'.h.get id = some (.cells fm ro l))) → LowF 49 (fun v H' => v = .lit (.bool true) ∧ H' = wkH y b lo hi (.isl N 6 false gg) NX) (.lit (.bool true)) st' := fun hf st' h1 h2 => by
    rw [if_pos hf] at hnx
    subst hnx
    exact ⟨_, 51, ⟨rfl, rfl⟩, Below.lit, hlow, by omega, .inr ⟨by omega, by omega⟩, h2⟩
  refine YieldW.fam (by omega) ?_
  obtain ⟨KK, hKK⟩ : ∃ k, (fun (v : AV) (H' : Nat → Hp) => v = .lit (.bool true) ∧ H' = wkH y b lo hi (.isl N 6 false gg) NX) = k := ⟨_, rfl⟩
  rw [hKK] at hsame hadd ⊢
  clear hlow hnx hKK
  unfold wkH at hsame hadd ⊢
  rw [List.length_append, List.length_singleton] at happ hadd
  obtain ⟨g2, hg2⟩ : ∃ g, zC (s ++ [w]) = g := ⟨_, rfl⟩
  rw [hg2] at happ hadd
  obtain ⟨g1, hg1⟩ : ∃ g, zC s = g := ⟨_, rfl⟩
  rw [hg1] at happ hsame ⊢
  obtain ⟨L, hL⟩ : ∃ L, s.length = L := ⟨_, rfl⟩
  rw [hL] at happ hsame hadd hs ⊢
  have hob : objG 51 1 g2 (L + 1) = [(51, .cells none false (flatG 1 g2 (L + 1)))] := rfl
  rw [hob] at hadd
  obtain ⟨G2, hG2⟩ : ∃ G, flatG 1 g2 (L + 1) = G := ⟨_, rfl⟩
  rw [hG2] at happ hadd
  unfold wkF at hsame hadd ⊢
  have hget : ∀ (h' : Hp) (fm : Option Nat), h'.get 6 = some (.loop wkR) → h'.get 5 = some .dfr → h'.get 4 = some (.cells none false [iV lo, iV hi]) → h'.get 3 = some (.cells none false [slG 51 1 (L + 1)]) → h'.get 2 = some (.cells none false [.isl N 6 false gg]) → h'.get 1 = some (.cells none false [iV b]) → h'.get 0 = some (.cells none false (yardC y)) → h'.get 51 = some (.cells fm false G2) →
      ∀ id o, Hp.get [(6, .loop wkR), (5, .dfr), (4, .cells none false [iV lo, iV hi]), (3, .cells none false [slG 51 1 (L + 1)]), (2, .cells none false [.isl N 6 false gg]), (1, .cells none false [iV b]), (0, .cells none false (yardC y)), (51, .cells none false G2)] id = some o → h'.get id = some o ∨ (id = 51 ∧ ∃ fm ro l, o = .cells none ro l ∧ h'.get id = some (.cells fm ro l)) := fun h' fm k6 k5 k4 k3 k2 k1 k0 k51 id o ho => by
    have := Hp.mem_of_get ho
    simp only [List.mem_cons, Prod.mk.injEq, List.not_mem_nil, or_false] at this
    rcases this with ⟨rfl, rfl⟩ | ⟨rfl, rfl⟩ | ⟨rfl, rfl⟩ | ⟨rfl, rfl⟩ | ⟨rfl, rfl⟩ | ⟨rfl, rfl⟩ | ⟨rfl, rfl⟩ | ⟨rfl, rfl⟩
    · exact .inl k6
    · exact .inl k5
    · exact .inl k4
    · exact .inl k3
    · exact .inl k2
    · exact .inl k1
    · exact .inl k0
    · exact .inr ⟨rfl, fm, false, G2, rfl, k51⟩
  have hlow48 : ∀ (B : Hp) (x : AObj) (r : ALoop) (X : AV) id o, (∀ p ∈ B, p.1 = 48) → Hp.get ((6, .loop wkR) :: (5, .dfr) :: (4, .cells none false [iV lo, iV hi]) :: (3, .cells none false [X]) :: (2, .cells none false [.isl N 6 false gg]) :: (1, .cells none false [iV b]) :: (0, .cells none false (yardC y)) :: B) id = some o → id ≠ 49 := fun B x r X id o hB ho => by
    have := Hp.mem_of_get ho
    simp only [List.mem_cons, Prod.mk.injEq] at this
    rcases this with ⟨rfl, rfl⟩ | ⟨rfl, rfl⟩ | ⟨rfl, rfl⟩ | ⟨rfl, rfl⟩ | ⟨rfl, rfl⟩ | ⟨rfl, rfl⟩ | ⟨rfl, rfl⟩ | h
    · omega
    · omega
    · omega
    · omega
    · omega
    · omega
    · omega
    · have := hB _ h; simp only at this; omega
  refine YieldW.of_round (r := wkR) rfl rfl ?_
  cases L with
  | zero =>
    refine SW.run tok hO (by cbv <;> rfl) (by trivial) ?_
    refine ⟨wkR, rfl, rfl, SW.block ?_⟩
    obtain ⟨RB, hRB⟩ : ∃ r, r = ({ wkR with state := .busy } : ALoop) := ⟨_, rfl⟩
    rw [← hRB]
    refine SW.seqRun tok hO (by cbv <;> rfl) (by trivial) ?_
    refine OpsW.callS en72 (hcon _ rfl rfl) (by cbv <;> rfl) fun r st'' hk => ?_
    obtain ⟨rfl, rfl⟩ := hk
    refine OpsW.run tok hO (by cbv <;> rfl) (by trivial) ?_
    refine SW.condS (by cbv <;> rfl) (fun h4 => ?_) (fun h4 => SW.skip ?_)
    · have hAt : A = true := h4
      refine SW.runN tok hO 3 (by cbv <;> rfl) (by trivial) ?_
      refine OpsW.appNil tok (by cbv <;> rfl) (by rfl) (by kernel_rfl) (by rfl) (by rfl) ?_
      refine OpsW.run tok hO (by cbv <;> rfl) (by trivial) ?_
      subst hRB
      exact ⟨_, rfl, hadd hAt _ rfl (hget _ none rfl rfl rfl rfl rfl rfl rfl (congrArg (fun z => some (AObj.cells none false z)) happ))⟩
    · have hAf : A = false := h4
      subst hRB
      refine ⟨_, rfl, hsame hAf _ (by show 49 ≤ 50; omega) fun id o ho => ?_⟩
      have h49 := hlow48 [] .dfr wkR _ id o (fun p hp => by cases hp) ho
      show Hp.get ((49, _) :: _) id = some o
      simp only [Hp.get]
      rw [if_neg (Ne.symm h49)]
      exact ho
  | succ L =>
    obtain ⟨G, hG⟩ : ∃ G, G = flatG 1 g1 (L + 1) := ⟨_, rfl⟩
    have hGo : objG 48 1 g1 (L + 1) = [(48, .cells none false G)] := by rw [hG]; rfl
    rw [hGo] at hsame ⊢
    refine SW.run tok hO (by cbv <;> rfl) (by trivial) ?_
    refine ⟨wkR, rfl, rfl, SW.block ?_⟩
    obtain ⟨RB, hRB⟩ : ∃ r, r = ({ wkR with state := .busy } : ALoop) := ⟨_, rfl⟩
    rw [← hRB]
    refine SW.seqRun tok hO (by cbv <;> rfl) (by trivial) ?_
    refine OpsW.callS en72 (hcon _ rfl rfl) (by cbv <;> rfl) fun r st'' hk => ?_
    obtain ⟨rfl, rfl⟩ := hk
    refine OpsW.run tok hO (by cbv <;> rfl) (by trivial) ?_
    refine SW.condS (by cbv <;> rfl) (fun h4 => ?_) (fun h4 => SW.skip ?_)
    · have hAt : A = true := h4
      refine SW.runN tok hO 3 (by cbv <;> rfl) (by trivial) ?_
      refine OpsW.appOne (g := g1) tok (by cbv <;> rfl) (by rfl) (by rfl) hG (by kernel_rfl) (by rfl) (by rfl) (by omega) fun G' hG' => ?_
      refine OpsW.run tok hO (by cbv <;> rfl) (by trivial) ?_
      subst hRB
      have hG2' : G' = G2 := hG'.trans happ
      exact ⟨_, rfl, hadd hAt _ rfl (hget _ (some 48) rfl rfl rfl rfl rfl rfl rfl (congrArg (fun z => some (AObj.cells (some 48) false z)) hG2'))⟩
    · have hAf : A = false := h4
      subst hRB
      refine ⟨_, rfl, hsame hAf _ (by show 49 ≤ 50; omega) fun id o ho => ?_⟩
      have h49 := hlow48 [(48, .cells none false G)] .dfr wkR _ id o (fun p hp => by rw [List.mem_singleton.1 hp]) ho
      show Hp.get ((49, _) :: _) id = some o
      simp only [Hp.get]
      rw [if_neg (Ne.symm h49)]
      exact ho
end Go.Fz
